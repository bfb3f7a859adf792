/-
  The law CostLayers answers true of any flows in every memory in which the errors and strconv's table are laid; nothing old is turned.
-/
import Derived.Test.YtefkchmahcjleaaDoorCoO
import Derived.Test.YtefkchmahcjleaaDoorCoZ
import Derived.Test.YtefkchmahcjleaaDoorCode2
namespace Go.Proofs.YtefkchmahcjleaaDoor
open Go.RowKit Go.Lib Go.Sort

theorem Lnk.kind {w : World} : ∀ {ks : List Nat} {m : List Ly} {v : Value}, Lnk w ks m v → ∀ k ∈ ks, ∃ c, w.heap[k]? = some (.cells c 50 (0, 0))
  | [], [], _, _, k, hk => by cases hk
  | j :: _, _ :: _, _, h, k, hk => by
    rcases List.mem_cons.1 hk with rfl | hk
    · exact ⟨_, h.1⟩
    · exact Lnk.kind h.2 k hk
theorem LyR.notRef {w : World} {B q : Nat} {ks : List Nat} {m : List Ly} {H : Int} (h : LyR w B q ks m H) : ∀ k ∈ q :: ks, ¬ RefK w k := by
  intro k hk hr
  rcases List.mem_cons.1 hk with rfl | hk
  · rcases hr with ⟨c, hc⟩ | ⟨c, hc⟩
    · exact blk_neY h.top hc (by decide) rfl
    · exact blk_neY h.top hc (by decide) rfl
  · obtain ⟨d, hd⟩ := h.lnk.kind k hk
    rcases hr with ⟨c, hc⟩ | ⟨c, hc⟩
    · exact blk_neY hd hc (by decide) rfl
    · exact blk_neY hd hc (by decide) rfl
theorem LyAt.offR {w w' : World} {B q : Nat} {ks : List Nat} {m : List Ly} (h : LyAt w B q ks m) (ho : OffR w w') : LyAt w' B q ks m := ⟨h.r.of_blocks fun k hk => ho.block k (h.r.lt k hk) (h.r.notRef k hk), h.ok⟩
theorem RefY.offY {w w' : World} {B q : Nat} {m : List Ly} {y : List Nat} (h : RefY w B q m) (hf : Off y w w') (hy : ∀ k ∈ y, ¬ RefK w k) : RefY w' B q m := by
  obtain ⟨v, h1, h2⟩ := h.ex
  refine ⟨⟨v, (hf.block q h.lt fun e => hy q e (Or.inl ⟨_, h1⟩)).trans h1, h2.kept fun g hg => hf.block g (h2.lt hg).2 fun e => hy g e (Or.inr (h2.kind hg))⟩, h.lo⟩
/-- The program's layers and the reference's. -/
structure Yl (w0 : World) (px q : Nat) (W : World) (mx mr : List Ly) : Prop where
  ex : ∃ kx, LyAt W w0.heap.size px kx mx
  ref : RefY W w0.heap.size q mr
  below : Below w0.heap.size w0 W
section
variable {w0 W W' : World} {px q : Nat} {mx mr : List Ly} {s : Nat → Addr}
theorem Yl.on (h : Yl w0 px q W mx mr) (hb : Below W.heap.size W W') : Yl w0 px q W' mx mr := by
  obtain ⟨kx, h1⟩ := h.ex
  exact ⟨⟨kx, h1.below hb⟩, h.ref.below hb, h.below.trans (hb.mono h.below.size)⟩
theorem Yl.okx (h : Yl w0 px q W mx mr) : LyOk mx := by
  obtain ⟨kx, h1⟩ := h.ex
  exact h1.ok
theorem Yl.inX (h : Yl w0 px q W mx mr) (hs : Cs W s) (n c : Int) :
    Calls Tryd.prog 7 #[ptrK px, .int .i64 n, .int .i64 c] W fun e w' => e = .returned (errP s (inE mx n c)) ∧ Yl w0 px q w' (inL mx n c) mr := by
  obtain ⟨kx, h1⟩ := h.ex
  refine (yin_any W s w0.heap.size px kx mx n c h1 hs).mono ?_
  rintro e w' ⟨rfl, ks', g1, _, g3⟩
  exact ⟨rfl, ⟨ks', g1⟩, h.ref.offY g3 h1.r.notRef, h.below.trans (g3.below h1.base h1.r.lo)⟩
theorem Yl.outX (h : Yl w0 px q W mx mr) (hs : Cs W s) (n : Int) :
    Calls Tryd.prog 8 #[ptrK px, .int .i64 n] W fun e w' => e = .returned (.tuple #[.int .i64 (outN mx n), errP s (outE mx n)]) ∧ Yl w0 px q w' (outL mx n) mr := by
  obtain ⟨kx, h1⟩ := h.ex
  refine (yout_any W s w0.heap.size px kx mx n h1 hs).mono ?_
  rintro e w' ⟨rfl, ks', g1, _, g3⟩
  exact ⟨rfl, ⟨ks', g1⟩, h.ref.offY g3 h1.r.notRef, h.below.trans (g3.below h1.base h1.r.lo)⟩
theorem Yl.inR (h : Yl w0 px q W mx mr) (hok : LyOk mr) (hl : mr.length ≤ 800) (n c : Int) :
    Calls Tryd.prog 12 #[ptrK q, .int .i64 n, .int .i64 c] W fun e w' => e = .returned (.int .i64 (inE mr n c)) ∧ Yl w0 px q w' mx (inL mr n c) := by
  obtain ⟨kx, h1⟩ := h.ex
  refine (rin_any W w0.heap.size q mr n c h.ref hok hl).mono ?_
  rintro e w' ⟨rfl, g1, g2⟩
  exact ⟨rfl, ⟨kx, h1.offR g2.off⟩, g1, h.below.trans g2.below⟩
theorem Yl.outR (h : Yl w0 px q W mx mr) (hok : LyOk mr) (hl : mr.length ≤ 800) (n : Int) :
    Calls Tryd.prog 13 #[ptrK q, .int .i64 n] W fun e w' => e = .returned (.tuple #[.int .i64 (outN mr n), .int .i64 (outE mr n)]) ∧ Yl w0 px q w' mx (outL mr n) := by
  obtain ⟨kx, h1⟩ := h.ex
  refine (rout_any W w0.heap.size q mr n h.ref hok (by omega)).mono ?_
  rintro e w' ⟨rfl, g1, g2⟩
  exact ⟨rfl, ⟨kx, h1.offR g2.off⟩, g1, h.below.trans g2.below⟩
end
theorem Ly1.ref_ {w0 W : World} {px : Nat} {m : List Ly} (h : Ly1 w0 px W m) : Yl w0 px W.heap.size (W.alloc (.cells #[.slice none 0 0] 39)) m [] := by
  obtain ⟨kx, h1⟩ := h.ex
  have hb : Below W.heap.size W (W.alloc (.cells #[.slice none 0 0] 39)) := (Below.refl _ W).alloc (Nat.le_refl _) _
  exact ⟨⟨kx, h1.below hb⟩, ⟨⟨_, heap_alloc_new W _, World.ownsRow_nil _ _ _ _⟩, h.below.size⟩, h.below.trans (hb.mono h.below.size)⟩
set_option maxRecDepth 100000 in
set_option maxHeartbeats 16000000 in
theorem costLayers_in (pp : Option Addr) (l : List Ly) (cap : Nat) (w : World) (s : Nat → Addr) (hs : Sent w s) (hh : Handle w) (hp : Pow w) (hr : l = [] ∨ ∃ bq off, pp = some ⟨bq, off, none⟩ ∧ RowF w bq off l) (h60 : l.length ≤ 60) :
    Calls Tryd.prog 4 #[.slice pp l.length cap] w fun r w' => r = .returned (.bool true) ∧ Below w.heap.size w w' := by
  have HCh : Hid (Calls Tryd.prog 5 #[] w _) := cheap_any w s hs.cs hp
  have HN : Hid (∀ W, Below w.heap.size w W → Calls Tryd.prog 6 #[] W fun e w' => ∃ q, e = .returned (ptrK q) ∧ Ly1 w q w' []) := fun W hb => (Ly1.new_ W).mono fun e w' ⟨q, h1, h2⟩ => ⟨q, h1, ⟨h2.ex.imp fun ks h => ⟨⟨h.r.top, h.r.lnk, h.r.nd, fun k hk => Nat.le_trans hb.size (h.r.lo k hk)⟩, h.ok⟩, hb.trans (h2.below.mono hb.size)⟩⟩
  have HO : Hid (∀ W, Below w.heap.size w W → Cs W s ∧ Pow W) := fun W hb => ⟨(hs.below hb).cs, hp.below hb⟩
  have HCd : Hid (∀ W code, Below w.heap.size w W → code ≤ 12 → Calls Tryd.prog 11 #[errP s code, .int .i64 code] W fun e w' => e = .returned (.bool true) ∧ Below W.heap.size W w') := fun W code hb hc => by
    have := codedP_any2 s code hc (code : Int) W (hs.below hb) (hh.below hb)
    simp only [decide_true] at this
    exact this
  have HR : Hid (∀ W, Below w.heap.size w W → ∀ i x, l[i]? = some x → ∃ bq off, pp = some ⟨bq, off, none⟩ ∧ W.cell? ⟨bq, off + i * 2, none⟩ = some (.int .i64 x.1) ∧ W.cell? ⟨bq, off + i * 2 + 1, none⟩ = some (.int .i64 x.2)) := fun W hb i x hi => by
    rcases hr with rfl | ⟨bq, off, h1, h2⟩
    · simp at hi
    · obtain ⟨h3, h4⟩ := h2 i x hi
      exact ⟨bq, off, h1, (hb.cell (p := ⟨bq, off + i * 2, none⟩) (cell_lt h3)).trans h3, (hb.cell (p := ⟨bq, off + i * 2 + 1, none⟩) (cell_lt h4)).trans h4⟩
  have HF : Hid (∀ k, LyOk (flows (l.take k)).1 ∧ (flows (l.take k)).2.1 = (flows (l.take k)).2.2 + worthY (flows (l.take k)).1 ∧ (flows (l.take k)).1.length ≤ k) := flows_ok l
  obtain ⟨ln, hln⟩ : ∃ ln, ln = l.length := ⟨_, rfl⟩
  have HLn : Hid (ln = l.length) := hln
  rw [← hln] at h60 ⊢
  clear hs hh hp hr hln
  go_enter Tryd.func4, Tryd.ntmps4
  go_wp2_with (first
    | (go_at_call 5; refine HCh.out.mono ?_; rintro e w1 ⟨rfl, hb1⟩; have HN1 : Hid (Calls Tryd.prog 6 #[] w1 _) := HN.out w1 hb1; clear hb1)
    | (go_at_call 6; refine HN1.out.mono ?_; clear HN1; rintro e w2 ⟨px, rfl, h2⟩; obtain ⟨W2, hW2⟩ : ∃ W2, w2.alloc (.cells #[.slice none 0 0] 39) = W2 := ⟨_, rfl⟩; obtain ⟨q, hq⟩ : ∃ q, w2.heap.size = q := ⟨_, rfl⟩; have h2r := h2.ref_; rw [hW2, hq] at h2r; have HK2 : Hid (Yl w px q W2 (flows (l.take 0)).1 (flows (l.take 0)).1) := h2r; clear h2 h2r))
  go_loopw [6] (fun vi wr => ∃ k : Nat, k ≤ ln ∧ vi = .int .i64 k ∧ Yl w px q wr (flows (l.take k)).1 (flows (l.take k)).1) (fun vi _ => ln - (RowKit.intOf vi).toNat)
  case atStart => exact ⟨0, Nat.zero_le _, rfl, HK2.out⟩
  case round =>
    obtain ⟨k, hk, rfl, hkp⟩ := hrel
    by_cases hlt : k < ln
    · obtain ⟨x, hx⟩ : ∃ x, l[k]? = some x := ⟨_, List.getElem?_eq_getElem (by rw [← HLn.out]; exact hlt)⟩
      obtain ⟨bq, off, rfl, c0, c1⟩ := HR.out wr hkp.below k x hx
      have HCl : Hid (∀ W, Below w.heap.size w W → W.cell? ⟨bq, off + k * 2, none⟩ = some (.int .i64 x.1) ∧ W.cell? ⟨bq, off + k * 2 + 1, none⟩ = some (.int .i64 x.2)) := fun W hb => by
        obtain ⟨bq', off', e, h1, h2⟩ := HR.out W hb k x hx
        cases e
        exact ⟨h1, h2⟩
      have HE : Hid (flows (l.take (k + 1)) = flowS (flows (l.take k)) x) := flows_succ hx
      obtain ⟨f1, _, f3⟩ := HF.out k
      obtain ⟨g1, _, g3⟩ := HF.out (k + 1)
      have hEx : (flows (l.take (k + 1))).1 = (flowS (flows (l.take k)) x).1 := by rw [HE.out]
      obtain ⟨xn, xc⟩ := x
      simp only at c0 c1 HCl
      have hm2 : (flowS (flows (l.take k)) (xn, xc)).1 = if 0 ≤ xc then inL (flows (l.take k)).1 xn xc else outL (flows (l.take k)).1 xn := by unfold flowS; split <;> rfl
      rw [hm2] at hEx
      rw [hEx] at g1 g3
      have HEx : Hid ((flows (l.take (k + 1))).1 = if 0 ≤ xc then inL (flows (l.take k)).1 xn xc else outL (flows (l.take k)).1 xn) := hEx
      have HKm : Hid (Yl w px q wr (flows (l.take k)).1 (flows (l.take k)).1) := hkp
      clear hkp hx HE HF HR hEx hm2
      generalize (flows (l.take k)).1 = m at *
      have hm60 : m.length ≤ 60 := by omega
      -- what is asked behind either way
      have HEnd : Hid (∀ W m2, m2.length ≤ 61 → Yl w px q W m2 m2 → (Calls Tryd.prog 14 #[ptrK px] W fun e w' => e = .returned (.int .i64 (hasY m2)) ∧ Yl w px q w' m2 m2) ∧ (Calls Tryd.prog 15 #[ptrK q] W fun e w' => e = .returned (.int .i64 (hasY m2)) ∧ Yl w px q w' m2 m2) ∧ (Calls Tryd.prog 9 #[ptrK px] W fun e w' => e = .returned (.int .i64 (worthY m2)) ∧ Yl w px q w' m2 m2) ∧ (Calls Tryd.prog 16 #[ptrK q] W fun e w' => e = .returned (.int .i64 (worthY m2)) ∧ Yl w px q w' m2 m2) ∧ (Calls Tryd.prog 10 #[ptrK px] W fun e w' => e = .returned (.string ⟨(textY m2).toArray⟩) ∧ Yl w px q w' m2 m2) ∧ (Calls Tryd.prog 17 #[ptrK q] W fun e w' => e = .returned (.string ⟨(textY m2).toArray⟩) ∧ Yl w px q w' m2 m2)) := fun W m2 hl2 h => by
        obtain ⟨kx, h1⟩ := h.ex
        refine ⟨(yhas_any W _ px kx m2 h1).mono fun e w' ⟨q1, q2⟩ => ⟨q1, q2 ▸ h⟩, (rhas_any W _ q m2 h.ref h1.ok (by omega)).mono fun e w' ⟨q1, q2⟩ => ⟨q1, h.on q2⟩, (yworth_any W _ px kx m2 h1).mono fun e w' ⟨q1, q2⟩ => ⟨q1, h.on q2⟩, (rworth_any W _ q m2 h.ref h1.ok (by omega)).mono fun e w' ⟨q1, q2⟩ => ⟨q1, h.on q2⟩, (ytext_any W _ px kx m2 h1 (HO.out W h.below).2 (by omega)).mono fun e w' ⟨q1, q2⟩ => ⟨q1, h.on q2⟩, (rtext_any W _ q m2 h.ref h1.ok (by omega)).mono fun e w' ⟨q1, q2⟩ => ⟨q1, h.on q2⟩⟩
      by_cases hc : 0 ≤ xc
      · rw [if_pos hc] at g1 g3 HEx
        have H1 : Hid (∀ W, Yl w px q W m m → Calls Tryd.prog 7 #[ptrK px, .int .i64 xn, .int .i64 xc] W fun e w' => e = .returned (errP s (inE m xn xc)) ∧ Yl w px q w' (inL m xn xc) m) := fun W h => h.inX (HO.out W h.below).1 xn xc
        have H2 : Hid (∀ W, Yl w px q W (inL m xn xc) m → Calls Tryd.prog 12 #[ptrK q, .int .i64 xn, .int .i64 xc] W fun e w' => e = .returned (.int .i64 (inE m xn xc)) ∧ Yl w px q w' (inL m xn xc) (inL m xn xc)) := fun W h => h.inR f1 (by omega) xn xc
        have H3 : Hid (∀ W, Below w.heap.size w W → Calls Tryd.prog 11 #[errP s (inE m xn xc), .int .i64 (inE m xn xc)] W fun e w' => e = .returned (.bool true) ∧ Below W.heap.size W w') := fun W hb => HCd.out W _ hb (by rcases inE_cases m xn xc with h | h <;> rw [h] <;> decide)
        have HKd : Hid (Yl w px q wr.drew m m) := HKm.out.on ((Below.refl _ wr).drew)
        obtain ⟨e0, e1⟩ := HCl.out wr.drew HKd.out.below
        have hg3 : (inL m xn xc).length ≤ 61 := by omega
        have HEn2 : Hid (∀ W, Yl w px q W (inL m xn xc) (inL m xn xc) → _) := fun W h => HEnd.out W _ hg3 h
        generalize errP s (inE m xn xc) = er at *
        generalize inE m xn xc = ec at *
        generalize inL m xn xc = m2 at *
        clear HEnd g1 f1
        have hse := fun a : ByteArray => same_eq a a
        simp only [decide_true] at hse
        have ht := hse (⟨(textY m2).toArray⟩ : ByteArray)
        clear hse
        generalize (⟨(textY m2).toArray⟩ : ByteArray) = tx at *
        generalize hasY m2 = hv at *
        generalize worthY m2 = wv at *
        go_wp2
        go_region_held3 (fun w' => w'.cell? ⟨bq, off + k * 2, none⟩ = some (.int .i64 xn) ∧ w'.cell? ⟨bq, off + k * 2 + 1, none⟩ = some (.int .i64 xc)) (go_keep)
          (first
            | (go_at_call 7; refine (H1.out _ HKd.out).mono ?_; rintro e w4 ⟨rfl, h4⟩; have HL4 : Hid (Yl w px q w4 m2 m) := h4; obtain ⟨k0, k1⟩ := HCl.out w4 h4.below; clear h4)
            | (go_at_call 12; refine (H2.out _ HL4.out).mono ?_; rintro e w5 ⟨rfl, h5⟩; have HL5 : Hid (Yl w px q w5 m2 m2) := h5; obtain ⟨j0, j1⟩ := HCl.out w5 h5.below; clear h5)
            | (go_at_call 11; refine (H3.out _ HL5.out.below).mono ?_; rintro e w6 ⟨rfl, h6⟩; have HL6 : Hid (Yl w px q w6 m2 m2) := HL5.out.on h6; obtain ⟨y0, y1⟩ := HCl.out w6 HL6.out.below; clear h6))
        go_wp2_with (first
          | (go_at_call 14; refine (HEn2.out _ HL6.out).1.mono ?_; rintro e w7 ⟨rfl, h7⟩; have HL7 : Hid (Yl w px q w7 m2 m2) := h7; clear h7)
          | (go_at_call 15; refine (HEn2.out _ HL7.out).2.1.mono ?_; rintro e w8 ⟨rfl, h8⟩; have HL8 : Hid (Yl w px q w8 m2 m2) := h8; clear h8)
          | (go_at_call 9; refine (HEn2.out _ HL8.out).2.2.1.mono ?_; rintro e w9 ⟨rfl, h9⟩; have HL9 : Hid (Yl w px q w9 m2 m2) := h9; clear h9)
          | (go_at_call 16; refine (HEn2.out _ HL9.out).2.2.2.1.mono ?_; rintro e wa ⟨rfl, ha⟩; have HLa : Hid (Yl w px q wa m2 m2) := ha; clear ha)
          | (go_at_call 10; refine (HEn2.out _ HLa.out).2.2.2.2.1.mono ?_; rintro e wb ⟨rfl, hb⟩; have HLb : Hid (Yl w px q wb m2 m2) := hb; clear hb)
          | (go_at_call 17; refine (HEn2.out _ HLb.out).2.2.2.2.2.mono ?_; rintro e wc ⟨rfl, hc9⟩; have HLc : Hid (Yl w px q wc m2 m2) := hc9; clear hc9))
        go_roundw
        case rel => exact ⟨k + 1, by omega, by go_num, by rw [HEx.out]; exact HLc.out⟩
        case measure => simp [RowKit.intOf]; omega
      · rw [if_neg hc] at g1 g3 HEx
        have H1 : Hid (∀ W, Yl w px q W m m → Calls Tryd.prog 8 #[ptrK px, .int .i64 xn] W fun e w' => e = .returned (.tuple #[.int .i64 (outN m xn), errP s (outE m xn)]) ∧ Yl w px q w' (outL m xn) m) := fun W h => h.outX (HO.out W h.below).1 xn
        have H2 : Hid (∀ W, Yl w px q W (outL m xn) m → Calls Tryd.prog 13 #[ptrK q, .int .i64 xn] W fun e w' => e = .returned (.tuple #[.int .i64 (outN m xn), .int .i64 (outE m xn)]) ∧ Yl w px q w' (outL m xn) (outL m xn)) := fun W h => h.outR f1 (by omega) xn
        have H3 : Hid (∀ W, Below w.heap.size w W → Calls Tryd.prog 11 #[errP s (outE m xn), .int .i64 (outE m xn)] W fun e w' => e = .returned (.bool true) ∧ Below W.heap.size W w') := fun W hb => HCd.out W _ hb (outE_le m xn)
        have hg3 : (outL m xn).length ≤ 61 := by omega
        have HEn2 : Hid (∀ W, Yl w px q W (outL m xn) (outL m xn) → _) := fun W h => HEnd.out W _ hg3 h
        generalize errP s (outE m xn) = er at *
        generalize outE m xn = ec at *
        generalize outN m xn = zn at *
        generalize outL m xn = m2 at *
        clear HEnd g1 f1
        have hse := fun a : ByteArray => same_eq a a
        simp only [decide_true] at hse
        have ht := hse (⟨(textY m2).toArray⟩ : ByteArray)
        clear hse
        generalize (⟨(textY m2).toArray⟩ : ByteArray) = tx at *
        generalize hasY m2 = hv at *
        generalize worthY m2 = wv at *
        go_wp2_with (first
          | (go_at_call 8; refine (H1.out _ HKm.out).mono ?_; rintro e w4 ⟨rfl, h4⟩; have HL4 : Hid (Yl w px q w4 m2 m) := h4; obtain ⟨k0, k1⟩ := HCl.out w4 h4.below; clear h4)
          | (go_at_call 13; refine (H2.out _ HL4.out).mono ?_; rintro e w5 ⟨rfl, h5⟩; have HL5 : Hid (Yl w px q w5 m2 m2) := h5; clear h5)
          | (go_at_call 11; refine (H3.out _ HL5.out.below).mono ?_; rintro e w6 ⟨rfl, h6⟩; have HL6 : Hid (Yl w px q w6 m2 m2) := HL5.out.on h6; clear h6)
          | (go_at_call 14; refine (HEn2.out _ HL6.out).1.mono ?_; rintro e w7 ⟨rfl, h7⟩; have HL7 : Hid (Yl w px q w7 m2 m2) := h7; clear h7)
          | (go_at_call 15; refine (HEn2.out _ HL7.out).2.1.mono ?_; rintro e w8 ⟨rfl, h8⟩; have HL8 : Hid (Yl w px q w8 m2 m2) := h8; clear h8)
          | (go_at_call 9; refine (HEn2.out _ HL8.out).2.2.1.mono ?_; rintro e w9 ⟨rfl, h9⟩; have HL9 : Hid (Yl w px q w9 m2 m2) := h9; clear h9)
          | (go_at_call 16; refine (HEn2.out _ HL9.out).2.2.2.1.mono ?_; rintro e wa ⟨rfl, ha⟩; have HLa : Hid (Yl w px q wa m2 m2) := ha; clear ha)
          | (go_at_call 10; refine (HEn2.out _ HLa.out).2.2.2.2.1.mono ?_; rintro e wb ⟨rfl, hb⟩; have HLb : Hid (Yl w px q wb m2 m2) := hb; clear hb)
          | (go_at_call 17; refine (HEn2.out _ HLb.out).2.2.2.2.2.mono ?_; rintro e wc ⟨rfl, hc9⟩; have HLc : Hid (Yl w px q wc m2 m2) := hc9; clear hc9))
        go_roundw
        case rel => exact ⟨k + 1, by omega, by go_num, by rw [HEx.out]; exact HLc.out⟩
        case measure => simp [RowKit.intOf]; omega
    · have HKm : Hid (Yl w px q wr (flows (l.take k)).1 (flows (l.take k)).1) := hkp
      clear hkp HF HR
      generalize (flows (l.take k)).1 = m at *
      have e1 : inE m 1 (-1) = 2 := by unfold inE; rw [if_neg]; omega
      have e2 : inE m 1 1048577 = 2 := by unfold inE; rw [if_neg]; omega
      have l1 : inL m 1 (-1) = m := by unfold inL; rw [if_neg (by rw [e1]; decide)]
      have l2 : inL m 1 1048577 = m := by unfold inL; rw [if_neg (by rw [e2]; decide)]
      have H1 : Hid (∀ W, Yl w px q W m m → Calls Tryd.prog 7 #[ptrK px, .int .i64 1, .int .i64 (-1)] W fun e w' => e = .returned (errP s 2) ∧ Yl w px q w' m m) := fun W h => by
        have := h.inX (HO.out W h.below).1 1 (-1)
        rw [e1, l1] at this
        exact this
      have H2 : Hid (∀ W, Yl w px q W m m → Calls Tryd.prog 7 #[ptrK px, .int .i64 1, .int .i64 1048577] W fun e w' => e = .returned (errP s 2) ∧ Yl w px q w' m m) := fun W h => by
        have := h.inX (HO.out W h.below).1 1 1048577
        rw [e2, l2] at this
        exact this
      have H3 : Hid (∀ W, Yl w px q W m m → Calls Tryd.prog 11 #[errP s 2, .int .i64 2] W fun e w' => e = .returned (.bool true) ∧ Yl w px q w' m m) := fun W h => (HCd.out W 2 h.below (by decide)).mono fun e w' ⟨q1, q2⟩ => ⟨q1, h.on q2⟩
      have H4 := H3
      generalize errP s 2 = er at *
      clear e1 e2 l1 l2
      go_wp2_with (first
        | (go_at_call 7; refine (H1.out _ HKm.out).mono ?_; clear H1; rintro e w4 ⟨rfl, h4⟩; have HL4 : Hid (Yl w px q w4 m m) := h4; clear h4)
        | (go_at_call 11; refine (H3.out _ HL4.out).mono ?_; clear H3; rintro e w5 ⟨rfl, h5⟩; have HL5 : Hid (Yl w px q w5 m m) := h5; clear h5)
        | (go_at_call 7; refine (H2.out _ HL5.out).mono ?_; rintro e w6 ⟨rfl, h6⟩; have HL6 : Hid (Yl w px q w6 m m) := h6; clear h6)
        | (go_at_call 11; refine (H4.out _ HL6.out).mono ?_; rintro e w7 ⟨rfl, h7⟩; have HL7 : Hid (Yl w px q w7 m m) := h7; clear h7))
      go_ret
      exact ⟨rfl, HL7.out.below⟩
end Go.Proofs.YtefkchmahcjleaaDoor
