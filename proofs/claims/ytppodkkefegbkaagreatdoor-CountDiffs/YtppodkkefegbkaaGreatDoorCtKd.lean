/-
 What count.Diff answers of a sheet: the sheet's first fault, a fault at the first line whose lot is none, or entries of what is more and less; nothing old is turned.
-/
import Derived.Test.YtppodkkefegbkaaGreatDoorCtKa
import Derived.Test.YtppodkkefegbkaaGreatDoorJz15
import Derived.Test.YtppodkkefegbkaaGreatDoorJz26
import Derived.Test.YtppodkkefegbkaaGreatDoorJz6
import Derived.BigQuiet
import Derived.OwnWalk
set_option maxRecDepth 100000
set_option maxHeartbeats 16000000
namespace Go.Proofs.YtppodkkefegbkaaGreatDoor
open Go.RowKit Go.Lib Go.Sort
theorem isLot_findI (b : Bk) (c : ByteArray) : isLot b c = decide (¬ findI nameL b.2.1 c < 0) := by
 unfold isLot
 rcases findN_cases nameL b.2.1 c with ⟨h1, h2⟩ | ⟨x, h1, h2, h3⟩
 ·rw [h1, findI_none h2]; rfl
 ·rw [h1]
  rcases findI_cases nameL b.2.1 c with ⟨_, h5⟩ | ⟨i, y, h4, _, _⟩
  ·exact absurd h3 (h5 x h2)
  ·rw [h4, decide_eq_true (by omega)]; rfl
theorem noneS_isLot {b : Bk} {l : List Ln} {k : Nat} {x : Ln} (h : l[k]? = some x) : noneS b l k = if isLot b x.2.1 = true then 0 else 6 := by
 rw [noneS_eq h, isLot_findI]
 by_cases h1 : findI nameL b.2.1 x.2.1 < 0
 ·rw [if_pos h1, decide_eq_false (fun h => h h1), if_neg (by decide)]
 ·rw [if_neg h1, decide_eq_true h1, if_pos rfl]
theorem strange_any (y : Ln) (n : Nat) (w : World) (B : Nat) (x : Bl) (b : Bk) (hI : IsBk w B x b) (hc : w.cell? ⟨n, 0, none⟩ = some (.pointer (some ⟨x.p, 0, none⟩))) (hz : y.2.1.size ≤ maxLen) :
  Calls Tryz.prog 31 #[agN y, .pointer (some ⟨n, 0, none⟩)] w fun e w' => e = .returned (.bool (!isLot b y.2.1)) ∧ Below w.heap.size w w' := by
 obtain ⟨U, hU⟩ : ∃ U, w.alloc (.cells #[.string y.1.1, .int .i64 y.1.2.1, .int .i64 y.1.2.2, .string y.2.1, .int .i64 y.2.2] 48) = U := ⟨_, rfl⟩
 have hl : LineAt U w.heap.size 0 y := hU ▸ LineAt.new w y _ _ rfl
 have hb : Below w.heap.size w U := hU ▸ (Below.refl _ w).alloc (Nat.le_refl _) _
 have hcU : U.cell? ⟨n, 0, none⟩ = some (.pointer (some ⟨x.p, 0, none⟩)) := (hb.cell (p := ⟨n, 0, none⟩) (cell_lt hc)).trans hc
 have HL : Hid (Calls Tryz.prog 32 #[.pointer (some ⟨x.p, 0, none⟩), .string y.2.1] U _) := blot_any y.2.1 U B x b (hI.below hb) hz
 have HB : Hid (Below w.heap.size w U) := hb
 obtain ⟨c0, c1, c2, c3, c4⟩ := hl
 clear hI hc hz hb
 obtain ⟨⟨a, r, bb⟩, c, k⟩ := y
 unfold agN
 simp only at *
 generalize isLot b c = I at *
 generalize lotAt b c = Q at *
 obtain ⟨q0, q1, q2, q3⟩ := Q
 unfold agQ at HL
 simp only at HL
 go_enter Tryz.func31, Tryz.ntmps31
 go_wp2_with (go_at_call 32; refine HL.out.mono ?_; rintro r w2 ⟨rfl, hb2⟩; have HB2 : Hid (Below w.heap.size w w2) := HB.out.trans (hb2.mono HB.out.size); clear hb2)
 go_ret
 exact ⟨by cases I <;> rfl, HB2.out.alloc HB2.out.size _⟩
theorem cdiff_bad (pp : Option Addr) (l : List Ln) (cap : Nat) (w : World) (x : Bl) (b : Bk) (s : Nat → Addr) (hs : Sent w s) (h : ShIn w pp l) (hcap : l.length ≤ cap) (hn : l.length ≤ 1000) (hz : ∀ x ∈ l, SzL x) {k : Nat} (hk : k < l.length) (hbe : ∀ j, j < k → sheetE l j = 0) (hne : sheetE l k ≠ 0) :
  Calls Tryz.prog 10 #[.pointer (some ⟨x.p, 0, none⟩), .slice pp l.length cap] w fun e w' => DifR w s b l w' e ∧ Below w.heap.size w w' := by
 obtain ⟨U, hU⟩ : ∃ U, w.alloc (.cells #[.pointer (some ⟨x.p, 0, none⟩)] 27) = U := ⟨_, rfl⟩
 have hb : Below w.heap.size w U := hU ▸ (Below.refl _ w).alloc (Nat.le_refl _) _
 have c0 : U.cell? ⟨w.heap.size, 0, none⟩ = some (.pointer (some ⟨x.p, 0, none⟩)) := by rw [← hU, World.cell?_alloc_at _ _ _ _ rfl]; rfl
 have HCk : Hid (Calls Tryz.prog 15 #[.slice pp l.length cap] U fun e w' => (∃ a, e = .returned (.iface 83 (.pointer (some ⟨a, 0, none⟩))) ∧ w'.cell? ⟨a, 0, none⟩ = some (.int .i64 k) ∧ w'.cell? ⟨a, 1, none⟩ = some (err (s (sheetE l k - 1)))) ∧ Below U.heap.size U w') := (ccheck_any pp l cap U s (hs.below hb) (h.on hb) hcap hn hz).mono fun e w' ⟨h1, h2⟩ => by
  refine ⟨?_, h2⟩
  rcases h1 with ⟨h3, _⟩ | ⟨k', _, hb', hne', v, h3, a, rfl, h4, h5⟩
  ·exact absurd (h3 k hk) hne
  ·obtain rfl := first_same hbe hne hb' hne'
   exact ⟨a, h3, h4, h5⟩
 have HB : Hid (Below w.heap.size w U) := hb
 have HK : Hid (k < l.length ∧ (∀ j, j < k → sheetE l j = 0) ∧ sheetE l k ≠ 0) := ⟨hk, hbe, hne⟩
 have HR : Hid (∀ (w' : World) (a : Nat), w'.cell? ⟨a, 0, none⟩ = some (.int .i64 k) → w'.cell? ⟨a, 1, none⟩ = some (err (s (sheetE l k - 1))) → DifR w s b l w' (.returned (.tuple #[.slice none 0 0, .iface 83 (.pointer (some ⟨a, 0, none⟩))]))) := fun w' a h4 h5 => Or.inl ⟨k, hk, hbe, hne, none, 0, _, rfl, a, rfl, h4, h5⟩
 generalize DifR w s b l = D at *
 generalize l.length = ln at *
 generalize sheetE l k = E at *
 clear hs h hz hb hk hbe hne
 go_enter Tryz.func10, Tryz.ntmps10
 go_wp2_with (go_at_call 15; refine HCk.out.mono ?_; rintro r w2 ⟨⟨a, rfl, f0, f1⟩, hb2⟩; have HF : Hid (w2.cell? ⟨a, 0, none⟩ = some (.int .i64 k) ∧ w2.cell? ⟨a, 1, none⟩ = some (err (s (E - 1)))) := ⟨f0, f1⟩; have HB2 : Hid (Below w.heap.size w w2) := HB.out.trans (hb2.mono HB.out.size); clear f0 f1 hb2)
 exact bodyPost_ret (v := .tuple #[.slice none 0 0, .iface 83 (.pointer (some ⟨a, 0, none⟩))]) (by simp [results, Tryz.results10, go_sem]) rfl ⟨HR.out _ a HF.out.1 HF.out.2, HB2.out⟩
theorem cdiff_lot (pp : Option Addr) (l : List Ln) (cap : Nat) (w : World) (B : Nat) (x : Bl) (b : Bk) (s : Nat → Addr) (hs : Sent w s) (hI : IsBk w B x b) (h : ShIn w pp l) (hcap : l.length ≤ cap) (hn : l.length ≤ 1000) (hz : ∀ x ∈ l, SzL x) (hgood : ∀ j, j < l.length → sheetE l j = 0) {k : Nat} (hk : k < l.length) (hbe : ∀ j, j < k → noneS b l j = 0) (hne : noneS b l k ≠ 0) :
  Calls Tryz.prog 10 #[.pointer (some ⟨x.p, 0, none⟩), .slice pp l.length cap] w fun e w' => DifR w s b l w' e ∧ Below w.heap.size w w' := by
 obtain ⟨U, hU⟩ : ∃ U, w.alloc (.cells #[.pointer (some ⟨x.p, 0, none⟩)] 27) = U := ⟨_, rfl⟩
 have hb : Below w.heap.size w U := hU ▸ (Below.refl _ w).alloc (Nat.le_refl _) _
 have c0 : U.cell? ⟨w.heap.size, 0, none⟩ = some (.pointer (some ⟨x.p, 0, none⟩)) := by rw [← hU, World.cell?_alloc_at _ _ _ _ rfl]; rfl
 have hlt0 : w.heap.size < U.heap.size := cell_lt c0
 have HCk : Hid (Calls Tryz.prog 15 #[.slice pp l.length cap] U fun e w' => e = .returned .nilIface ∧ Below U.heap.size U w') := (ccheck_any pp l cap U s (hs.below hb) (h.on hb) hcap hn hz).mono fun e w' ⟨h1, h2⟩ => by
  rcases h1 with ⟨_, h3⟩ | ⟨k', hk', _, hne', _⟩
  ·exact ⟨h3, h2⟩
  ·exact absurd (hgood k' hk') hne'
 have eg : ∀ args w, (callFunc 31 args).run Tryz.prog w = .ok (.enter 31 args) w := enters_of Tryz.func31 (by kernel_rfl) rfl
 have hIx := fun (W : World) (hW : Below U.heap.size U W) => lix_any 31 #[.pointer (some ⟨w.heap.size, 0, none⟩)] (fun y => !isLot b y.2.1) eg pp l cap W (h.on (hb.trans (hW.mono hb.size))) hn fun y hy W' hW' =>
  strange_any y _ W' B x b (hI.below ((hb.trans (hW.mono hb.size)).trans (hW'.mono (Nat.le_trans hb.size hW.size)))) (((hW.trans (hW'.mono hW.size)).cell (p := ⟨w.heap.size, 0, none⟩) hlt0).trans c0) (hz y hy).2
 have HCell : Hid (∀ W, Below U.heap.size U W → W.cell? ⟨w.heap.size, 0, none⟩ = some (.pointer (some ⟨x.p, 0, none⟩))) := fun W hW => (hW.cell (p := ⟨w.heap.size, 0, none⟩) hlt0).trans c0
 have HB : Hid (Below w.heap.size w U) := hb
 have HIx : Hid (∀ W, Below U.heap.size U W → Calls Tryz.prog 30 #[.slice pp l.length cap, .func (.func 31) #[] #[.pointer (some ⟨w.heap.size, 0, none⟩)]] W fun e w' => e = .returned (.int .i64 (k : Int)) ∧ Below W.heap.size W w') := fun W hW => (hIx W hW).mono fun e w' ⟨h1, h2⟩ => by
  refine ⟨?_, h2⟩
  have hkx : ∃ x, l[k]? = some x := ⟨_, List.getElem?_eq_getElem hk⟩
  obtain ⟨y, hy⟩ := hkx
  have hyn : isLot b y.2.1 = false := by
   rw [noneS_isLot hy] at hne
   cases h9 : isLot b y.2.1 with
   | false => rfl
   | true => rw [h9, if_pos rfl] at hne; exact absurd rfl hne
  rcases h1 with ⟨_, h3⟩ | ⟨k', y', hy', hp', hno', h3⟩
  ·have := h3 k y hy
   rw [hyn] at this
   cases this
  ·have e9 : k' = k := by
    rcases Nat.lt_trichotomy k' k with h9 | h9 | h9
    ·have h5 := hbe k' h9
     rw [noneS_isLot hy'] at h5
     have h6 : isLot b y'.2.1 = false := by simpa using hp'
     rw [h6, if_neg (by decide)] at h5
     omega
    ·exact h9
    ·have := hno' k y h9 hy
     rw [hyn] at this
     cases this
   rw [← e9]
   exact h3
 have HSe : Hid (∀ W, Below U.heap.size U W → Sent W s) := fun W hW => hs.below (hb.trans (hW.mono hb.size))
 have HR : Hid (∀ (w' : World) (a : Nat), w'.cell? ⟨a, 0, none⟩ = some (.int .i64 k) → w'.cell? ⟨a, 1, none⟩ = some (err (s 5)) → DifR w s b l w' (.returned (.tuple #[.slice none 0 0, .iface 83 (.pointer (some ⟨a, 0, none⟩))]))) := fun w' a h4 h5 => Or.inr (Or.inl ⟨hgood, k, hk, hbe, hne, none, 0, _, rfl, a, rfl, h4, h5⟩)
 have hk0 : (0 : Int) ≤ (k : Int) := by omega
 generalize DifR w s b l = D at *
 generalize l.length = ln at *
 clear hs hI h hz hb hk hbe hne hgood hIx eg hlt0
 go_enter Tryz.func10, Tryz.ntmps10
 go_wp2_with (first
  | (go_at_call 15; refine HCk.out.mono ?_; rintro r w2 ⟨rfl, hb2⟩; have HB2 : Hid (Below U.heap.size U w2) := hb2; clear hb2)
  | (go_at_call 30; refine (HIx.out _ HB2.out).mono ?_; rintro r w3 ⟨rfl, hb3⟩; have HB3 : Hid (Below U.heap.size U w3) := HB2.out.trans (hb3.mono HB2.out.size); obtain ⟨g0, g1, g2, g3, g4, g5, g6, g7, g8, g9, g10, g11⟩ := (HSe.out w3 HB3.out).cells; clear g0 g1 g2 g3 g4 g6 g7 g8 g9 g10 g11 hb3))
 go_region
 all_goals
  go_wp2
  exact bodyPost_ret (v := .tuple #[.slice none 0 0, .iface 83 (.pointer (some ⟨w3.heap.size, 0, none⟩))]) (by simp [results, Tryz.results10, go_sem]) rfl ⟨HR.out _ _ (by simp) (by simp), ((HB.out.trans (HB3.out.mono HB.out.size)).alloc (Nat.le_trans HB.out.size HB3.out.size) _).drew⟩
theorem ents_row {w : World} {B : Nat} {v : Value} {l : List En} (h : encD.Row w B 43 v l) : ∃ p c, v = .slice p l.length c ∧ (l = [] ∨ ∃ bq off, p = some ⟨bq, off, none⟩ ∧ B ≤ bq ∧ Ents w bq off l) := by
 obtain ⟨p, c, rfl⟩ := h.shape
 refine ⟨p, c, rfl, ?_⟩
 cases l with
 | nil => exact Or.inl rfl
 | cons e0 l0 =>
  right
  rcases h.2 with ⟨h1, h2⟩ | ⟨g, cap, cur, hv, hB, hg, h3⟩
  ·simp at h2
  ·injection hv with a1 a2 a3
   subst a1
   refine ⟨g, 0, rfl, hB, (Array.getElem?_eq_some_iff.1 hg).1, fun k e he => ?_⟩
   have hk := (List.getElem?_eq_some_iff.1 he).1
   have key : ∀ c, c < 14 → w.cell? ⟨g, 0 + k * 14 + c, none⟩ = (encD.enc e)[c]? := fun c hc => by
    rw [Nat.zero_add, World.ownsRow.cellAt h (k * 14 + c) (by show _ < _ * encD.k; show _ < _ * 14; omega)]
    exact encD.flat_get c he hc
   exact ⟨key 0 (by decide), key 1 (by decide), key 2 (by decide), key 3 (by decide), key 4 (by decide), key 5 (by decide), key 6 (by decide), key 7 (by decide), key 8 (by decide), key 9 (by decide), key 10 (by decide), key 11 (by decide), key 12 (by decide), key 13 (by decide)⟩
theorem cdiff_fine (pp : Option Addr) (l : List Ln) (cap : Nat) (w : World) (B : Nat) (x : Bl) (b : Bk) (s : Nat → Addr) (hs : Sent w s) (hI : IsBk w B x b) (h : ShIn w pp l) (hcap : l.length ≤ cap) (hn : l.length ≤ 1000) (hz : ∀ x ∈ l, SzL x) (hgood : ∀ j, j < l.length → sheetE l j = 0) (hlots : ∀ j, j < l.length → noneS b l j = 0) :
  Calls Tryz.prog 10 #[.pointer (some ⟨x.p, 0, none⟩), .slice pp l.length cap] w fun e w' => DifR w s b l w' e ∧ Below w.heap.size w w' := by
 obtain ⟨i0, hi, hz0, hz1, hz2⟩ := info_parts Tryz.infoEnt
 obtain ⟨U, hU⟩ : ∃ U, w.alloc (.cells #[.pointer (some ⟨x.p, 0, none⟩)] 27) = U := ⟨_, rfl⟩
 have hb : Below w.heap.size w U := hU ▸ (Below.refl _ w).alloc (Nat.le_refl _) _
 have c0 : U.cell? ⟨w.heap.size, 0, none⟩ = some (.pointer (some ⟨x.p, 0, none⟩)) := by rw [← hU, World.cell?_alloc_at _ _ _ _ rfl]; rfl
 have hlt0 : w.heap.size < U.heap.size := cell_lt c0
 have HCk : Hid (Calls Tryz.prog 15 #[.slice pp l.length cap] U fun e w' => e = .returned .nilIface ∧ Below U.heap.size U w') := (ccheck_any pp l cap U s (hs.below hb) (h.on hb) hcap hn hz).mono fun e w' ⟨h1, h2⟩ => by
  rcases h1 with ⟨_, h3⟩ | ⟨k', hk', _, hne', _⟩
  ·exact ⟨h3, h2⟩
  ·exact absurd (hgood k' hk') hne'
 have eg : ∀ args w, (callFunc 31 args).run Tryz.prog w = .ok (.enter 31 args) w := enters_of Tryz.func31 (by kernel_rfl) rfl
 have hIx := fun (W : World) (hW : Below U.heap.size U W) => lix_any 31 #[.pointer (some ⟨w.heap.size, 0, none⟩)] (fun y => !isLot b y.2.1) eg pp l cap W (h.on (hb.trans (hW.mono hb.size))) hn fun y hy W' hW' =>
  strange_any y _ W' B x b (hI.below ((hb.trans (hW.mono hb.size)).trans (hW'.mono (Nat.le_trans hb.size hW.size)))) (((hW.trans (hW'.mono hW.size)).cell (p := ⟨w.heap.size, 0, none⟩) hlt0).trans c0) (hz y hy).2
 have HCell : Hid (∀ W, Below U.heap.size U W → W.cell? ⟨w.heap.size, 0, none⟩ = some (.pointer (some ⟨x.p, 0, none⟩))) := fun W hW => (hW.cell (p := ⟨w.heap.size, 0, none⟩) hlt0).trans c0
 have HB : Hid (Below w.heap.size w U) := hb
 have HIx : Hid (∀ W, Below U.heap.size U W → Calls Tryz.prog 30 #[.slice pp l.length cap, .func (.func 31) #[] #[.pointer (some ⟨w.heap.size, 0, none⟩)]] W fun e w' => e = .returned (.int .i64 (-1)) ∧ Below W.heap.size W w') := fun W hW => (hIx W hW).mono fun e w' ⟨h1, h2⟩ => by
  refine ⟨?_, h2⟩
  rcases h1 with ⟨h3, _⟩ | ⟨k', y', hy', hp', _, _⟩
  ·exact h3
  ·have h5 := hlots k' (List.getElem?_eq_some_iff.1 hy').1
   rw [noneS_isLot hy'] at h5
   have h6 : isLot b y'.2.1 = false := by simpa using hp'
   rw [h6, if_neg (by decide)] at h5
   omega
 have HSt : Hid (∀ W, Below U.heap.size U W → Calls Tryz.prog 12 #[.pointer (some ⟨x.p, 0, none⟩)] W fun e w' => ∃ p' b', e = .returned (.pointer (some ⟨p', 0, none⟩)) ∧ IsStock w' p' b' b.2.2 ∧ Below W.heap.size W w') := fun W hW => (bstock_any W B x b (hI.below (hb.trans (hW.mono hb.size)))).mono fun e w' ⟨p', b', h1, h2⟩ => ⟨p', b', h1, h2.st, h2.below⟩
 have HL : Hid (∀ W k y, Below w.heap.size w W → l[k]? = some y → ∃ bq off, pp = some ⟨bq, off, none⟩ ∧ LineAt W bq (off + k * 5) y) := fun W k y hb hy => h.line hb hy
 have HKy : Hid (∀ (k : Nat) (y : Ln), l[k]? = some y → KeyOk (y.1, y.2.1)) := fun k y hy => keyOk_of (place_sheet (own_line (hgood k (List.getElem?_eq_some_iff.1 hy).1) hy)) (hz y (List.mem_of_getElem? hy)).1 (hz y (List.mem_of_getElem? hy)).2
 have HXb : Hid (∀ (k : Nat) (y : Ln), l[k]? = some y → 0 ≤ y.2.2 ∧ y.2.2 ≤ 1099511627776) := fun k y hy => by
  have hown := own_line (hgood k (List.getElem?_eq_some_iff.1 hy).1) hy
  rcases ownS_cases y with ⟨_, _, _, h1, h2⟩ | ⟨h1, h2⟩ | ⟨_, _, h2⟩ | ⟨_, _, _, h2⟩ | ⟨_, _, _, _, h2⟩
  ·exact ⟨h1, h2⟩
  all_goals omega
 have hw := hI.ok.wf
 have HAb : Hid (∀ p, 0 ≤ atL b.2.2 p ∧ atL b.2.2 p ≤ 1099511627776) := fun p => ⟨hw.st.at_nonneg p, Int.le_trans (hw.st.at_le p) (hw.st.most p.2)⟩
 have HR : Hid (∀ (w' : World) (v : Value) (B' : Nat), w.heap.size ≤ B' → encD.Row w' B' 43 v (diffL b.2.2 l) → DifR w s b l w' (.returned (.tuple #[v, .nilIface]))) := fun w' v B' hB' h4 => by
  obtain ⟨p, c, rfl, h5⟩ := ents_row h4
  exact Or.inr (Or.inr ⟨hgood, hlots, p, c, rfl, h5.imp id fun ⟨bq, off, h6, h7, h8⟩ => ⟨bq, off, h6, Nat.le_trans hB' h7, h8⟩⟩)
 generalize DifR w s b l = D at *
 obtain ⟨ln, hln⟩ : ∃ ln, l.length = ln := ⟨_, rfl⟩
 have HN : Hid (ln = l.length) := hln.symm
 rw [hln] at hn hcap HCk HIx ⊢
 clear hs hI h hz hb hlots hgood hIx eg hlt0 hln hw
 go_enter Tryz.func10, Tryz.ntmps10
 go_wp2_with (first
  | (go_at_call 15; refine HCk.out.mono ?_; rintro r w2 ⟨rfl, hb2⟩; have HB2 : Hid (Below U.heap.size U w2) := hb2; clear hb2)
  | (go_at_call 30; refine (HIx.out _ HB2.out).mono ?_; rintro r w3 ⟨rfl, hb3⟩; have HB3 : Hid (Below U.heap.size U w3) := HB2.out.trans (hb3.mono HB2.out.size); have d0 := HCell.out w3 HB3.out; clear hb3)
  | (go_at_call 12; refine (HSt.out _ HB3.out).mono ?_; rintro r w4 ⟨p', b', rfl, hS4, hb4⟩; have HS4 : Hid (IsStock w4 p' b' b.2.2) := hS4; have HB4 : Hid (Below w.heap.size w w4) := (HB.out.trans (HB3.out.mono HB.out.size)).trans (hb4.mono (Nat.le_trans HB.out.size HB3.out.size)); clear hS4 hb4))
 clear c0 d0 hU
 go_loopw [9, 35] (fun vo vi wr => ∃ (k : Nat) (vv : Value), k ≤ ln ∧ vi = .int .i64 k ∧ vv = vo ∧ encD.Row wr w4.heap.size 43 vv (diffL b.2.2 (l.take k)) ∧ Below w4.heap.size w4 wr) (fun _ vi _ => ln - (RowKit.intOf vi).toNat)
 case atStart => exact ⟨0, _, Nat.zero_le _, rfl, rfl, World.ownsRow_nil _ _ _ _, Below.refl _ _⟩
 case round =>
  obtain ⟨k, vout, hk, rfl, rfl, hrow, hwr⟩ := hrel
  have HWr : Hid (Below w4.heap.size w4 wr) := hwr
  have HBw : Hid (Below w.heap.size w wr) := HB4.out.trans (hwr.mono HB4.out.size)
  by_cases hlt : k < ln
  ·obtain ⟨y, hy⟩ : ∃ y, l[k]? = some y := ⟨_, List.getElem?_eq_getElem (by rw [← HN.out]; exact hlt)⟩
   obtain ⟨bq, off, rfl, c0, c1, c2, c3, c4⟩ := HL.out wr k y HBw.out hy
   obtain ⟨W1, hW1⟩ : ∃ W1, wr.alloc (.cells #[.string y.1.1, .int .i64 y.1.2.1, .int .i64 y.1.2.2, .string y.2.1, .int .i64 y.2.2] 48) = W1 := ⟨_, rfl⟩
   have hl1 : LineAt W1 wr.heap.size 0 y := hW1 ▸ LineAt.new wr y _ _ rfl
   have hb1 : Below wr.heap.size wr W1 := hW1 ▸ (Below.refl _ wr).alloc (Nat.le_refl _) _
   have HB1 : Hid (Below w4.heap.size w4 W1) := hwr.trans (hb1.mono hwr.size)
   have HBox : Hid (∀ W, Below W1.heap.size W1 W → LineAt W wr.heap.size 0 y) := fun W hb => hl1.of_block (hb.block _ hl1.lt)
   have HAx : Hid (∀ W, Below W1.heap.size W1 W → Calls Tryz.prog 13 #[.pointer (some ⟨p', 0, none⟩), agP y.1, .string y.2.1] W fun e w' => e = .returned (.int .i64 (atL b.2.2 (y.1, y.2.1))) ∧ Below W.heap.size W w') := fun W hb => at_any y.1 y.2.1 W p' b' b.2.2 (HS4.out.all (HB1.out.trans (hb.mono HB1.out.size))) (HKy.out k y hy)
   have HRw : Hid (encD.Row W1 w4.heap.size 43 vout (diffL b.2.2 (l.take k))) := hrow.below hb1
   obtain ⟨x0, x9⟩ := HXb.out k y hy
   obtain ⟨a0, a9⟩ := HAb.out (y.1, y.2.1)
   have hde := diffL_succ (m := b.2.2) hy
   have hdl := diffL_len b.2.2 (l.take k)
   have hdl2 := List.length_take_le' k l
   have hj9 : (diffL b.2.2 (l.take k)).length ≤ 1000 := by have := HN.out; omega
   obtain ⟨ao, co, rfl⟩ := hrow.shape
   unfold diffOne at hde
   obtain ⟨f0, f1, f2, f3, f4⟩ := hl1
   obtain ⟨A, hA⟩ : ∃ A, atL b.2.2 (y.1, y.2.1) = A := ⟨_, rfl⟩
   rw [hA] at hde HAx a0 a9
   obtain ⟨⟨xz, xr, xb⟩, xl, xn⟩ := y
   unfold moreEn lessEn at hde
   unfold agP at HAx
   simp only [Nat.zero_add] at c0 c1 c2 c3 c4 f0 f1 f2 f3 f4 HAx x0 x9 hde hW1
   clear hdl hdl2 hy hA hrow hwr hb1
   generalize diffL b.2.2 (l.take k) = M at *
   generalize hmn : M.length = j at *
   have HMn : Hid (M.length = j) := hmn
   clear hmn
   by_cases hlt1 : A < xn
   ·rw [if_pos hlt1] at hde
    have HDe : Hid (diffL b.2.2 (l.take (k + 1)) = M ++ [(kMore, (⟨#[]⟩, 0), (xl, ⟨#[]⟩, 0, 0), (⟨#[]⟩, 0, 0), (xz, xr, xb), xn - A)]) := hde
    have HFx : Hid (∀ W, Calls Tryz.prog 33 #[.agg #[.string xz, .int .i64 xr, .int .i64 xb, .string xl, .int .i64 xn], .int .i64 A] W fun e w' => e = .returned (agE (kMore, (⟨#[]⟩, 0), (xl, ⟨#[]⟩, 0, 0), (⟨#[]⟩, 0, 0), (xz, xr, xb), xn - A)) ∧ Below W.heap.size W w') := fun W => found_more ((xz, xr, xb), xl, xn) A W hlt1 (by rw [IntKind.wrap_i64]; simp only; omega)
    have hq1 : (A == xn) = false := by simp; omega
    have hq2 : ¬ A = xn := by omega
    clear hde
    go_wp2_with (first
     | (go_at_call 13; refine (HAx.out _ (Below.refl _ _)).mono ?_; rintro r w5 ⟨rfl, hb5⟩; have HB5 : Hid (Below w4.heap.size w4 w5) := HB1.out.trans (hb5.mono HB1.out.size); have HB15 : Hid (Below W1.heap.size W1 w5) := hb5; obtain ⟨d0, d1, d2, d3, d4⟩ := HBox.out w5 hb5; (try simp only [Nat.zero_add] at d0 d1 d2 d3 d4); clear hb5)
     | (go_at_call 33; refine (HFx.out _).mono ?_; rintro r w6 ⟨rfl, hb6⟩; have HB6 : Hid (Below w4.heap.size w4 w6) := HB5.out.trans (hb6.mono HB5.out.size); have HOd : Hid (w6.ownsRow w4.heap.size 43 14 (.slice ao j co) j (encD.flat M)) := (by have h6 := HRw.out.below (HB15.out.trans (hb6.mono HB15.out.size)); unfold Enc.Row at h6; rw [HMn.out] at h6; exact h6); clear hb6)
     | (at_builtin; refine wpList_append_own _ rfl _ _ 22 rfl w4.heap.size 43 i0 _ 14 160 Tryz.underlying22 hi hz0 hz1 hz2 rfl (by decide) (.slice ao j co) j (encD.flat M) rfl (HOd.out.alloc _) ⟨w6.heap.size, 0, none⟩ 1 1 (encD.enc ((kMore, (⟨#[]⟩, 0), (xl, ⟨#[]⟩, 0, 0), (⟨#[]⟩, 0, 0), (xz, xr, xb), xn - A))) rfl rfl (World.news_of_block (heap_alloc_new w6 _)) (encD.one _) (by unfold maxLen; omega) (by omega) (by have := HB6.out.size; simp; omega) ?_; intro v7 w7 own7 gr7 _; have HO7 : Hid (w7.ownsRow w4.heap.size 43 14 v7 (j + 1) (encD.flat M ++ encD.enc ((kMore, (⟨#[]⟩, 0), (xl, ⟨#[]⟩, 0, 0), (⟨#[]⟩, 0, 0), (xz, xr, xb), xn - A)))) := own7; have HB7 : Hid (Below w4.heap.size w4 w7) := (HB6.out.alloc HB6.out.size _).grown gr7 (by have := HB6.out.size; simp; omega) (fun kk hkk => (HOd.out.lt kk hkk).1); clear own7 gr7))
    go_roundw
    case rel => exact ⟨k + 1, _, by omega, by go_num, rfl, by rw [HDe.out]; unfold Enc.Row; rw [List.length_append, HMn.out, encD.flat_append, encD.flat_one]; exact HO7.out, HB7.out⟩
    case measure => simp [RowKit.intOf]; omega
   ·rw [if_neg hlt1] at hde
    by_cases hlt2 : xn < A
    ·rw [if_pos hlt2] at hde
     have HDe : Hid (diffL b.2.2 (l.take (k + 1)) = M ++ [(kLess, (⟨#[]⟩, 0), (xl, ⟨#[]⟩, 0, 0), (xz, xr, xb), (⟨#[]⟩, 0, 0), A - xn)]) := hde
     have HFx : Hid (∀ W, Calls Tryz.prog 33 #[.agg #[.string xz, .int .i64 xr, .int .i64 xb, .string xl, .int .i64 xn], .int .i64 A] W fun e w' => e = .returned (agE (kLess, (⟨#[]⟩, 0), (xl, ⟨#[]⟩, 0, 0), (xz, xr, xb), (⟨#[]⟩, 0, 0), A - xn)) ∧ Below W.heap.size W w') := fun W => found_less ((xz, xr, xb), xl, xn) A W hlt2 (by rw [IntKind.wrap_i64]; simp only; omega)
     have hq1 : (A == xn) = false := by simp; omega
     have hq2 : ¬ A = xn := by omega
     clear hde
     go_wp2_with (first
      | (go_at_call 13; refine (HAx.out _ (Below.refl _ _)).mono ?_; rintro r w5 ⟨rfl, hb5⟩; have HB5 : Hid (Below w4.heap.size w4 w5) := HB1.out.trans (hb5.mono HB1.out.size); have HB15 : Hid (Below W1.heap.size W1 w5) := hb5; obtain ⟨d0, d1, d2, d3, d4⟩ := HBox.out w5 hb5; (try simp only [Nat.zero_add] at d0 d1 d2 d3 d4); clear hb5)
      | (go_at_call 33; refine (HFx.out _).mono ?_; rintro r w6 ⟨rfl, hb6⟩; have HB6 : Hid (Below w4.heap.size w4 w6) := HB5.out.trans (hb6.mono HB5.out.size); have HOd : Hid (w6.ownsRow w4.heap.size 43 14 (.slice ao j co) j (encD.flat M)) := (by have h6 := HRw.out.below (HB15.out.trans (hb6.mono HB15.out.size)); unfold Enc.Row at h6; rw [HMn.out] at h6; exact h6); clear hb6)
      | (at_builtin; refine wpList_append_own _ rfl _ _ 22 rfl w4.heap.size 43 i0 _ 14 160 Tryz.underlying22 hi hz0 hz1 hz2 rfl (by decide) (.slice ao j co) j (encD.flat M) rfl (HOd.out.alloc _) ⟨w6.heap.size, 0, none⟩ 1 1 (encD.enc ((kLess, (⟨#[]⟩, 0), (xl, ⟨#[]⟩, 0, 0), (xz, xr, xb), (⟨#[]⟩, 0, 0), A - xn))) rfl rfl (World.news_of_block (heap_alloc_new w6 _)) (encD.one _) (by unfold maxLen; omega) (by omega) (by have := HB6.out.size; simp; omega) ?_; intro v7 w7 own7 gr7 _; have HO7 : Hid (w7.ownsRow w4.heap.size 43 14 v7 (j + 1) (encD.flat M ++ encD.enc ((kLess, (⟨#[]⟩, 0), (xl, ⟨#[]⟩, 0, 0), (xz, xr, xb), (⟨#[]⟩, 0, 0), A - xn)))) := own7; have HB7 : Hid (Below w4.heap.size w4 w7) := (HB6.out.alloc HB6.out.size _).grown gr7 (by have := HB6.out.size; simp; omega) (fun kk hkk => (HOd.out.lt kk hkk).1); clear own7 gr7))
     go_roundw
     case rel => exact ⟨k + 1, _, by omega, by go_num, rfl, by rw [HDe.out]; unfold Enc.Row; rw [List.length_append, HMn.out, encD.flat_append, encD.flat_one]; exact HO7.out, HB7.out⟩
     case measure => simp [RowKit.intOf]; omega
    ·rw [if_neg hlt2, List.append_nil] at hde
     have HDe : Hid (diffL b.2.2 (l.take (k + 1)) = M) := hde
     have hq : A = xn := by omega
     subst hq
     clear hde
     go_wp2_with (go_at_call 13; refine (HAx.out _ (Below.refl _ _)).mono ?_; rintro r w5 ⟨rfl, hb5⟩; have HB5 : Hid (Below w4.heap.size w4 w5) := HB1.out.trans (hb5.mono HB1.out.size); have HR5 : Hid (encD.Row w5 w4.heap.size 43 (.slice ao j co) M) := (HRw.out.below hb5); obtain ⟨d0, d1, d2, d3, d4⟩ := HBox.out w5 hb5; (try simp only [Nat.zero_add] at d0 d1 d2 d3 d4); clear hb5)
     go_roundw
     case rel => exact ⟨k + 1, _, by omega, by go_num, rfl, by rw [HDe.out]; exact HR5.out, HB5.out⟩
     case measure => simp [RowKit.intOf]; omega
  ·have hkn : k = ln := by omega
   subst hkn
   have e : l.take k = l := List.take_of_length_le (by rw [← HN.out]; exact Nat.le_refl _)
   rw [e] at hrow
   have HRow : Hid (encD.Row wr w4.heap.size 43 vout (diffL b.2.2 l)) := hrow
   clear hrow hwr e
   go_wp2
   exact bodyPost_ret (v := .tuple #[vout, .nilIface]) (by simp [results, Tryz.results10, go_sem]) rfl ⟨HR.out _ _ _ HB4.out.size HRow.out, HBw.out⟩
theorem countD_any (s : Nat → Addr) : CountD s where
 diff W B x b pp l cap hs hI h hcap h30 hz := by
  have hn : l.length ≤ 1000 := by omega
  rcases first_or (sheetE l) l.length with hg | ⟨k, hk, hbe, hne⟩
  ·rcases first_or (noneS b l) l.length with hg2 | ⟨k, hk, hbe, hne⟩
   ·exact cdiff_fine pp l cap W B x b s hs hI h hcap hn hz hg hg2
   ·exact cdiff_lot pp l cap W B x b s hs hI h hcap hn hz hg hk hbe hne
  ·exact cdiff_bad pp l cap W x b s hs h hcap hn hz hk hbe hne
end Go.Proofs.YtppodkkefegbkaaGreatDoor
