/-
 What BookOf answers of entries: the program's book and the reference's, both as the entries make them; nothing old is turned.
-/
import Derived.Test.YteomomeigbfeoaaGreatDoorJz17
import Derived.Test.YteomomeigbfeoaaGreatDoorBDo
import Derived.Test.YteomomeigbfeoaaGreatDoorJz9
import Derived.Test.YteomomeigbfeoaaGreatDoorJz2
import Derived.Test.YteomomeigbfeoaaGreatDoorJz24
import Derived.Test.YteomomeigbfeoaaGreatDoorJz16
set_option maxRecDepth 100000
set_option maxHeartbeats 16000000
namespace Go.Proofs.YteomomeigbfeoaaGreatDoor
open Go.RowKit Go.Lib Go.Sort
theorem Enc.Row.of_blocks {α : Type} {E : Enc α} {w w' : World} {B : Nat} {T : TypeId} {v : Value} {m : List α} (h : E.Row w B T v m) (hk : ∀ (g : Nat) (cur : Array Value), w.heap[g]? = some (Obj.cells cur T (0, 0)) → w'.heap[g]? = w.heap[g]?) : E.Row w' B T v m := by
 rcases h.2 with ⟨h1, h2⟩ | ⟨g, cap, cur, hv, hB, hg, h3, h4, h5, h6⟩
 ·exact ⟨h.1, Or.inl ⟨h1, h2⟩⟩
 ·exact ⟨h.1, Or.inr ⟨g, cap, cur, hv, hB, (hk g cur hg).trans hg, h3, h4, h5, h6⟩⟩
theorem RefB.off {w w' : World} {Bq q : Nat} {b b' : Bk} {B : Nat} {x : Bl} (h : RefB w Bq q b) (hx : IsBk w B x b') (hf : Off x.all w w') : RefB w' Bq q b := by
 obtain ⟨ps, bs, hx⟩ := hx
 have key : ∀ {g : Nat} {c : Array Value} {T : TypeId}, w.heap[g]? = some (.cells c T (0, 0)) → T ≠ 96 → w'.heap[g]? = w.heap[g]? := fun {g c T} hg hT => by
  refine hf.block g (Array.getElem?_eq_some_iff.1 hg).1 fun e => ?_
  have hm : ∀ {k : Nat} {L : List Ent}, MapL Tryz.prog 9 w k L → g ≠ k := fun hM e9 => by
   obtain ⟨es, ck, hb, _⟩ := hM
   rw [← e9, hg] at hb
   cases hb
  unfold Bl.all at e
  simp at e
  rcases e with e | e | e | e | e
  ·rw [e, hx.blk] at hg
   injection hg with hg
   injection hg with _ h2 _
   exact hT h2.symm
  ·exact hm hx.G e
  ·exact hm hx.U e
  ·exact hm hx.L e
  ·exact hm hx.H e
 obtain ⟨vG, vL, vS, h1, h2, h3, h4, h5⟩ := h
 exact ⟨vG, vL, vS, (key h1 (by decide)).trans h1, h2.of_blocks fun g c hg => key hg (by decide), h3.of_blocks fun g c hg => key hg (by decide), h4.of_blocks fun g c hg => key hg (by decide), h5⟩
theorem IsBk.turn {w w' : World} {B B' : Nat} {x : Bl} {b : Bk} (h : IsBk w B x b) (ht : Turn B' w w') : IsBk w' B x b := by
 obtain ⟨ps, bs, h⟩ := h
 have hm : ∀ {k : Nat} {L : List Ent} {kt : TypeId}, MapL Tryz.prog kt w k L → w'.heap[k]? = w.heap[k]? := fun {k L kt} hM => by
  rcases ht.keeps k hM.lt with e | ⟨c, f, c', f', T, hT, e1, e2⟩
  ·exact e
  ·obtain ⟨es, ck, hb, _⟩ := hM
   rw [hb] at e1
   cases e1
 have hc : ∀ {k : Nat} {c : Array Value} {T : TypeId}, w.heap[k]? = some (.cells c T (0, 0)) → ¬ refT T → w'.heap[k]? = w.heap[k]? := fun {k c T} hk hT => by
  rcases ht.keeps k (Array.getElem?_eq_some_iff.1 hk).1 with e | ⟨c, f, c', f', T', hT', e1, e2⟩
  ·exact e
  ·rw [hk] at e1
   injection e1 with e1
   injection e1 with _ e5 _
   subst e5
   exact absurd hT' hT
 refine ⟨ps, bs, h.of_blocks fun k hk => ?_⟩
 rcases hk with rfl | rfl | rfl | rfl | rfl | rfl | rfl
 ·exact hc h.blk (by unfold refT; decide)
 ·exact hm h.G
 ·exact hm h.U
 ·exact hm h.L
 ·exact hm h.H
 ·exact hc h.sblk (by unfold refT; decide)
 ·exact hm h.S.map
structure Both (w W : World) (x : Bl) (Bq q : Nat) (b : Bk) : Prop where
 below : Below w.heap.size w W
 prog : IsBk W w.heap.size x b
 ref : RefB W Bq q b
 base : w.heap.size ≤ Bq
theorem Both.later {w W W' : World} {x : Bl} {Bq q : Nat} {b : Bk} (h : Both w W x Bq q b) (hb : Below W.heap.size W W') : Both w W' x Bq q b := ⟨h.below.trans (hb.mono h.below.size), h.prog.below hb, h.ref.below hb, h.base⟩
theorem bookOf_any (pp : Option Addr) (l : List En) (cap : Nat) (w : World) (s : Nat → Addr) (hs : Sent w s) (hh : Handle w) (hz : ∀ e ∈ l, SzE e) (hr : l = [] ∨ ∃ bq off, pp = some ⟨bq, off, none⟩ ∧ Ents w bq off l) (h100 : l.length ≤ 1000) :
  Calls Tryz.prog 11 #[.slice pp l.length cap] w fun e w' => ∃ x Bq q, e = .returned (.tuple #[.pointer (some ⟨x.p, 0, none⟩), .pointer (some ⟨q, 0, none⟩), .bool true]) ∧ Both w w' x Bq q (bkTo l l.length) := by
 have HN : Hid (Calls Tryz.prog 18 _ _ _) := bnew_any w
 have HS : Hid (∀ W, Below w.heap.size w W → Sent W s ∧ Handle W) := fun W hb => ⟨hs.below hb, hh.below hb⟩
 have HZ : Hid (∀ e ∈ l, SzE e) := hz
 have HR : Hid (∀ W k e, l[k]? = some e → Below w.heap.size w W → ∃ bq off, pp = some ⟨bq, off, none⟩ ∧ EntO W bq (off + k * 14) e) := fun W k e he hb => by
  rcases hr with rfl | ⟨bq, off, h1, h2⟩
  ·simp at he
  ·exact ⟨bq, off, h1, (h2.below h2.lt hb).at_ k e he⟩
 obtain ⟨ln, hln⟩ : ∃ ln, l.length = ln := ⟨_, rfl⟩
 have HL : Hid (ln = l.length) := hln.symm
 rw [hln] at h100 ⊢
 clear hs hh hz hr hln
 go_enter Tryz.func11, Tryz.ntmps11
 go_wp2_with (go_at_call 18; refine HN.out.mono ?_; rintro e w1 ⟨x, rfl, hI, hb1⟩; have HI : Hid (IsBk _ _ _ _) := hI; have HB1 : Hid (Below _ _ _) := hb1; clear hI hb1)
 have hb2 : Below w1.heap.size w1 (w1.alloc (.cells #[.slice none 0 0, .slice none 0 0, .slice none 0 0] 88)) := (Below.refl _ w1).alloc (Nat.le_refl _) _
 have n2 := heap_alloc_new w1 (.cells #[.slice none 0 0, .slice none 0 0, .slice none 0 0] 88)
 have HBo : Hid (Both w (w1.alloc (.cells #[.slice none 0 0, .slice none 0 0, .slice none 0 0] 88)) x w1.heap.size w1.heap.size (bkTo l 0)) := ⟨HB1.out.trans (hb2.mono HB1.out.size), HI.out.below hb2, ⟨_, _, _, n2, World.ownsRow_nil _ _ _ _, World.ownsRow_nil _ _ _ _, World.ownsRow_nil _ _ _ _, Nat.le_refl _⟩, HB1.out.size⟩
 clear hb2 n2
 generalize hU : w1.alloc (.cells #[.slice none 0 0, .slice none 0 0, .slice none 0 0] 88) = U at *
 clear hU
 generalize w1.heap.size = q at *
 clear HI HB1
 go_loopw [7] (fun i wr => ∃ k : Nat, k ≤ ln ∧ i = .int .i64 k ∧ Both w wr x q q (bkTo l k)) (fun i _ => ln - (RowKit.intOf i).toNat)
 case atStart => exact ⟨0, Nat.zero_le _, rfl, HBo.out⟩
 case round =>
  obtain ⟨k, hk, rfl, hBo⟩ := hrel
  have HBk : Hid (Both _ _ _ _ _ _) := hBo
  by_cases hlt : k < ln
  ·have hkm : k < l.length := by rw [← HL.out]; exact hlt
   obtain ⟨e, he⟩ : ∃ e, l[k]? = some e := ⟨_, List.getElem?_eq_getElem hkm⟩
   have hze := HZ.out e (List.mem_of_getElem? he)
   obtain ⟨bq, off, rfl, hE⟩ := HR.out wr.drew k e he hBo.below.drew
   have hBd : Both w wr.drew x q q (bkTo l k) := hBo.later (Below.refl _ _).drew
   have hD := bdo_any wr.drew s w.heap.size x (bkTo l k) e hBd.prog hze (HS.out _ hBd.below).1.bs
   have HD2 : Hid (∀ W, Below w.heap.size w W → IsBk W w.heap.size x (bkTo l (k + 1)) → RefB W q q (bkTo l k) → w.heap.size ≤ q → Calls Tryz.prog 40 #[.pointer (some ⟨q, 0, none⟩), agE e] W fun r w' => r = .returned (.int .i64 ((doB (bkTo l k) e).2 : Int)) ∧ Both w w' x q q (bkTo l (k + 1)) ∧ EntO w' bq (off + k * 14) e) := fun W hb h1 h2 h3 =>
    (refDo_any W q q (bkTo l k) e h2 hze (bkTo_ok l k).wf).mono fun r w' ⟨r1, r2, r3⟩ => by
     have hbw : Below w.heap.size w w' := hb.trans (r3.below.mono h3)
     obtain ⟨bq', off', e1, e2⟩ := HR.out w' k e he hbw
     cases e1
     exact ⟨r1, ⟨hbw, h1.turn r3, by rw [bkTo_succ he]; exact r2, h3⟩, e2⟩
   have HE : Hid (∀ W, Below w.heap.size w W → EntO W bq (off + k * 14) e) := fun W hb => by
    obtain ⟨bq', off', e1, e2⟩ := HR.out W k e he hb
    cases e1
    exact e2
   have HD1 : Hid (Calls Tryz.prog 13 #[.pointer (some ⟨x.p, 0, none⟩), agE e] wr.drew fun r w' => r = .returned (errP s (doB (bkTo l k) e).2) ∧ Below w.heap.size w w' ∧ IsBk w' w.heap.size x (bkTo l (k + 1)) ∧ RefB w' q q (bkTo l k)) := hD.mono fun r w' ⟨r1, r2, r3⟩ => ⟨r1, hBd.below.trans (r3.below hBd.below.size (fun k hk => (hBd.prog.low k hk).1)), by rw [bkTo_succ he]; exact r2, hBd.ref.off hBd.prog r3⟩
   have HCd : Hid (∀ W, Below w.heap.size w W → Calls Tryz.prog 39 #[errP s (doB (bkTo l k) e).2, .int .i64 ((doB (bkTo l k) e).2 : Int)] W fun r w' => r = .returned (.bool true) ∧ Below W.heap.size W w') := fun W hb => by
    have := codedP_any2 s (doB (bkTo l k) e).2 (doB_le _ _) ((doB (bkTo l k) e).2 : Int) W (HS.out W hb).1 (HS.out W hb).2
    simpa using this
   have Hq : Hid (w.heap.size ≤ q) := hBo.base
   generalize (doB (bkTo l k) e).2 = C at *
   obtain ⟨c0, c1, c2, c3, c4, c5, c6, c7, c8, c9, c10, c11, c12, c13⟩ := hE
   clear hD hze hkm hBo hBd he
   obtain ⟨ak, ⟨agc, agp⟩, ⟨ali, alc, alu, alk⟩, ⟨afz, afr, afb⟩, ⟨atz, atr, atb⟩, an⟩ := e
   unfold agE at *
   simp only at c0 c1 c2 c3 c4 c5 c6 c7 c8 c9 c10 c11 c12 c13 HD1 HD2 HE
   go_wp2
   go_region_held3 (fun w' => w'.cell? ⟨bq, off + k * 14, none⟩ = some (.string ak) ∧ w'.cell? ⟨bq, off + k * 14 + 1, none⟩ = some (.string agc) ∧ w'.cell? ⟨bq, off + k * 14 + 2, none⟩ = some (.int .i64 agp) ∧ w'.cell? ⟨bq, off + k * 14 + 3, none⟩ = some (.string ali) ∧ w'.cell? ⟨bq, off + k * 14 + 4, none⟩ = some (.string alc) ∧ w'.cell? ⟨bq, off + k * 14 + 5, none⟩ = some (.int .i64 alu) ∧ w'.cell? ⟨bq, off + k * 14 + 6, none⟩ = some (.int .i64 alk) ∧ w'.cell? ⟨bq, off + k * 14 + 7, none⟩ = some (.string afz) ∧ w'.cell? ⟨bq, off + k * 14 + 8, none⟩ = some (.int .i64 afr) ∧ w'.cell? ⟨bq, off + k * 14 + 9, none⟩ = some (.int .i64 afb) ∧ w'.cell? ⟨bq, off + k * 14 + 10, none⟩ = some (.string atz) ∧ w'.cell? ⟨bq, off + k * 14 + 11, none⟩ = some (.int .i64 atr) ∧ w'.cell? ⟨bq, off + k * 14 + 12, none⟩ = some (.int .i64 atb) ∧ w'.cell? ⟨bq, off + k * 14 + 13, none⟩ = some (.int .i64 an)) (go_keep) (first | (go_at_call 13; refine HD1.out.mono ?_; rintro r w3 ⟨rfl, hb3, hi3, hr3⟩; obtain ⟨d0, d1, d2, d3, d4, d5, d6, d7, d8, d9, d10, d11, d12, d13⟩ := HE.out _ hb3; (try simp only at d0 d1 d2 d3 d4 d5 d6 d7 d8 d9 d10 d11 d12 d13); have Hb3 : Hid (Below _ _ _) := hb3; have Hi3 : Hid (IsBk _ _ _ _) := hi3; have Hr3 : Hid (RefB _ _ _ _) := hr3; clear hb3 hi3 hr3) | (go_at_call 40; refine (HD2.out _ Hb3.out Hi3.out Hr3.out Hq.out).mono ?_; rintro r w4 ⟨rfl, hB4, hE4⟩; obtain ⟨f0, f1, f2, f3, f4, f5, f6, f7, f8, f9, f10, f11, f12, f13⟩ := hE4; (try simp only at f0 f1 f2 f3 f4 f5 f6 f7 f8 f9 f10 f11 f12 f13); have HB4 : Hid (Both _ _ _ _ _ _) := hB4; clear hB4) | (go_at_call 39; refine (HCd.out _ HB4.out.below).mono ?_; rintro r w5 ⟨rfl, hb5⟩; have hB5 := HB4.out.later hb5; obtain ⟨g0, g1, g2, g3, g4, g5, g6, g7, g8, g9, g10, g11, g12, g13⟩ := HE.out _ hB5.below; (try simp only at g0 g1 g2 g3 g4 g5 g6 g7 g8 g9 g10 g11 g12 g13); have HB5 : Hid (Both _ _ _ _ _ _) := hB5; clear hB5 hb5))
   go_wp2
   go_roundw
   case rel => exact ⟨k + 1, by omega, by go_num, HB5.out⟩
   case measure => simp [RowKit.intOf]; omega
  ·have hkn : k = ln := by omega
   subst hkn
   go_wp2
   exact bodyPost_ret (v := .tuple #[.pointer (some ⟨x.p, 0, none⟩), .pointer (some ⟨q, 0, none⟩), .bool true]) (by simp [results, Tryz.results11, go_sem]) rfl ⟨x, q, q, rfl, HBk.out⟩
theorem GoodsAt.shape {w : World} {B : Nat} {v : Value} {m : List Gs} (h : GoodsAt w B v m) : ∃ pg cap, v = .slice pg m.length cap ∧ ∀ i x, m[i]? = some x → ∃ g, pg = some ⟨g, 0, none⟩ ∧ g < w.heap.size ∧ w.cell? ⟨g, i * 2, none⟩ = some (.string x.1.1) := by
 rcases h with ⟨h1, h2⟩ | ⟨g, cap, h1, h2, h3, h4⟩
 ·refine ⟨none, 0, by rw [h1, h2]; rfl, fun i x hi => ?_⟩
  rw [h2] at hi
  simp at hi
 ·exact ⟨_, cap, h1, fun i x hi => ⟨g, rfl, h3, (h4 i x hi).1⟩⟩
theorem LotsAt.shape {w : World} {B : Nat} {v : Value} {d : Array Lo} (h : LotsAt w B v d) : ∃ pl cap, v = .slice pl d.size cap ∧ ∀ j, j < d.size → ∃ g, pl = some ⟨g, 0, none⟩ ∧ w.cell? ⟨g, j * 4, none⟩ = some (.string d[j]!.1) := by
 rcases h with ⟨h1, h2⟩ | ⟨g, cap, h1, h2, h3⟩
 ·refine ⟨none, 0, by rw [h1, h2]; rfl, fun j hj => ?_⟩
  rw [h2] at hj
  simp at hj
 ·refine ⟨_, cap, h1, fun j hj => ⟨g, rfl, ?_⟩⟩
  have := (h3.cells hj).1
  rwa [Nat.zero_add] at this
def sumG (b : Bk) (k : Nat) : Int := ((b.1.take k).map fun g => hasL b.2.2 (nameG g) b.2.1).sum
def sumO (m : List Ln) (d : List Lo) (j : Nat) : Int := ((d.take j).map fun l => ofL m l.1).sum
def sumN (m : List Ln) (k : Nat) : Int := ((m.take k).map fun y => y.2.2).sum
theorem sum_take {α : Type} {f : α → Int} {m : List α} {k : Nat} {x : α} (h : m[k]? = some x) : ((m.take (k + 1)).map f).sum = ((m.take k).map f).sum + f x := by
 obtain ⟨hk, e⟩ := List.getElem?_eq_some_iff.1 h
 rw [List.take_succ_eq_append_getElem hk, e]
 simp
theorem sum_bound {α : Type} {f : α → Int} {M : Int} : ∀ {m : List α}, (∀ x ∈ m, 0 ≤ f x ∧ f x ≤ M) → 0 ≤ (m.map f).sum ∧ (m.map f).sum ≤ m.length * M
 | [], _ => ⟨Int.le_refl _, by simp⟩
 | x :: m, h => by
  obtain ⟨h1, h2⟩ := sum_bound (m := m) fun y hy => h y (List.mem_cons_of_mem _ hy)
  obtain ⟨h3, h4⟩ := h x (List.mem_cons_self ..)
  rw [List.map_cons, List.sum_cons, List.length_cons]
  refine ⟨by omega, ?_⟩
  rw [Int.natCast_add, Int.add_mul]
  simp
  omega
theorem sum_permI {α : Type} (f : α → Int) {d d' : List α} (h : d.Perm d') : (d.map f).sum = (d'.map f).sum := by
 have := h.map f
 generalize d.map f = A at *
 generalize d'.map f = A' at *
 induction this with
 | nil => rfl
 | cons x _ ih => simp [ih]
 | swap x y l => simp; omega
 | trans _ _ i1 i2 => exact i1.trans i2
theorem lots_has (m : List Ln) (c : ByteArray) : ∀ L : List Lh, ((lotsOf L c).map fun l => ofL m l.1).sum = hasL m c L
 | [] => rfl
 | x :: L => by
  rw [show x :: L = [x] ++ L from rfl, lotsOf_app, List.map_append, List.sum_append, lots_has m c L, hasL_app]
  by_cases h : x.1.2.1 = c
  ·rw [lotsOf_hit h]; unfold hasL; simp [h]
  ·rw [lotsOf_miss h]; unfold hasL; simp [h]
theorem sumO_all {m : List Ln} {d : Array Lo} {L : List Lh} {c : ByteArray} (h : d.toList.Perm (lotsOf L c)) : sumO m d.toList d.size = hasL m c L := by
 unfold sumO
 rw [List.take_of_length_le (by simp), sum_permI _ h, lots_has]
theorem sumO_bound {m : List Ln} (hw : Wf m) {d : List Lo} {j : Nat} (hd : d.length ≤ 40) : 0 ≤ sumO m d j ∧ sumO m d j ≤ 43980465111040 := by
 obtain ⟨h1, h2⟩ := sum_bound (f := fun l : Lo => ofL m l.1) (M := 1099511627776) (m := d.take j) fun x _ => ⟨ofL_nonneg (fun y hy => hw.pos y hy) _, hw.most _⟩
 have h3 : ((d.take j).length : Int) ≤ 40 := by have := List.length_take_le' j d; omega
 have h4 : ((d.take j).length : Int) * 1099511627776 ≤ 40 * 1099511627776 := Int.mul_le_mul_of_nonneg_right h3 (by decide)
 exact ⟨h1, by unfold sumO; omega⟩
theorem sumG_bound {b : Bk} (h : BkOk b) (k : Nat) : 0 ≤ sumG b k ∧ sumG b k ≤ 1979120929996800 := by
 obtain ⟨h1, h2⟩ := sum_bound (f := fun g : Gs => hasL b.2.2 (nameG g) b.2.1) (M := 65970697666560) (m := b.1.take k) fun x _ => by
  have h3 := hasL_bound h.wf.st (nameG x) b.2.1
  have h4 : (b.2.1.length : Int) * 1099511627776 ≤ 60 * 1099511627776 := Int.mul_le_mul_of_nonneg_right (by have := h.wf.ll; omega) (by decide)
  exact ⟨h3.1, by omega⟩
 have h3 : ((b.1.take k).length : Int) ≤ 30 := by have := List.length_take_le k b.1; have := h.wf.gl; have := List.length_take_le' k b.1; omega
 have h4 : ((b.1.take k).length : Int) * 65970697666560 ≤ 30 * 65970697666560 := Int.mul_le_mul_of_nonneg_right h3 (by decide)
 exact ⟨h1, by unfold sumG; omega⟩
theorem sumN_bound {m : List Ln} (hw : Wf m) (k : Nat) : 0 ≤ sumN m k ∧ sumN m k ≤ 219902325555200 := by
 obtain ⟨h1, h2⟩ := sum_bound (f := fun y : Ln => y.2.2) (M := 1099511627776) (m := m.take k) fun x hx => by
  have hx' := List.mem_of_mem_take hx
  exact ⟨by have := hw.pos x hx'; omega, hw.qty hx'⟩
 have h3 : ((m.take k).length : Int) ≤ 200 := by have := List.length_take_le' k m; have := hw.len; omega
 have h4 : ((m.take k).length : Int) * 1099511627776 ≤ 200 * 1099511627776 := Int.mul_le_mul_of_nonneg_right h3 (by decide)
 exact ⟨h1, by unfold sumN; omega⟩
theorem sum_GN {b : Bk} (h : BkOk b) (hp : Pac b) : sumG b b.1.length = sumN b.2.2 b.2.2.length := by
 unfold sumG sumN
 rw [List.take_length, List.take_length]
 exact all_lines h hp
theorem isLot_line {b : Bk} (hp : Pac b) {y : Ln} (hy : y ∈ b.2.2) : isLot b y.2.1 = true := by
 obtain ⟨l, hl, e⟩ := hp.lines y hy
 unfold isLot
 rcases findN_cases nameL b.2.1 y.2.1 with ⟨h1, h2⟩ | ⟨z, h1, h2, h3⟩
 ·exact absurd e (h2 l hl)
 ·rw [h1]; rfl
theorem at_line {m : List Ln} (hw : Wf m) {y : Ln} (hy : y ∈ m) : atL m (y.1, y.2.1) = y.2.2 := atL_mem hw.sorted.keys hy
theorem key_line {m : List Ln} (hw : Wf m) {y : Ln} (hy : y ∈ m) : KeyOk (y.1, y.2.1) ∧ y.2.1.size ≤ maxLen := by
 obtain ⟨h1, h2, _⟩ := hw.ok y hy
 have hb := okP_bounds h1
 have z1 := name_short hb.1
 have z2 := name_short h2
 exact ⟨keyOk_of ((okP_err _).1 h1) (by unfold maxLen; omega) (by unfold maxLen; omega), by unfold maxLen; omega⟩
theorem bookLots_in (pp : Option Addr) (l : List En) (cap : Nat) (w : World) (s : Nat → Addr) (hs : Sent w s) (hh : Handle w) (hpw : Pow w) (hz : ∀ e ∈ l, SzE e) (hr : l = [] ∨ ∃ bq off, pp = some ⟨bq, off, none⟩ ∧ Ents w bq off l) (h40 : l.length ≤ 40) (hno : longs l = false) :
  Calls Tryz.prog 6 #[.slice pp l.length cap] w fun e w' => e = .returned (.bool true) ∧ Below w.heap.size w w' := by
 have HSt : Hid (Calls Tryz.prog 8 _ _ _) := started_any w s hs.bs
 have HLg : Hid (∀ W, Below w.heap.size w W → Calls Tryz.prog 9 #[.slice pp l.length cap, .int .i64 40] W fun r w' => r = .returned (.int .i64 0) ∧ Below W.heap.size W w') := fun W hb => by
  rcases hr with rfl | ⟨bq, off, rfl, hE⟩
  ·refine (longs_none pp cap 40 W (by decide)).mono ?_
   rintro r w' ⟨rfl, rfl⟩
   exact ⟨rfl, Below.refl _ _⟩
  ·have := longs_some l bq off cap 40 W (hE.below hE.lt hb) hz (by omega) (by decide)
   rw [hno] at this
   exact this
 have HOf : Hid (∀ W, Below w.heap.size w W → Calls Tryz.prog 11 #[.slice pp l.length cap] W fun e w' => ∃ x Bq q, e = .returned (.tuple #[.pointer (some ⟨x.p, 0, none⟩), .pointer (some ⟨q, 0, none⟩), .bool true]) ∧ Both W w' x Bq q (bkTo l l.length)) := fun W hb =>
  bookOf_any pp l cap W s (hs.below hb) (hh.below hb) hz (hr.imp id fun ⟨bq, off, h1, h2⟩ => ⟨bq, off, h1, h2.below h2.lt hb⟩) (by omega)
 have hok := bkTo_ok l l.length
 have hpac := bkTo_pac l l.length
 have h40b : (bkTo l l.length).2.1.length ≤ 40 := Nat.le_trans (bkTo_lots l l.length) h40
 have HO6 : Hid (∀ W, Below w.heap.size w W → Old6 W s) := fun W hb => ⟨(hs.below hb).six, hpw.below hb⟩
 generalize bkTo l l.length = b at *
 generalize l.length = ln at *
 clear hs hh hpw hz hr hno h40
 have HGN : Hid (sumG b b.1.length = sumN b.2.2 b.2.2.length) := sum_GN hok hpac
 have HOK : Hid (BkOk b) := hok
 have HPA : Hid (Pac b) := hpac
 have H40 : Hid (b.2.1.length ≤ 40) := h40b
 clear hok hpac h40b
 go_enter Tryz.func6, Tryz.ntmps6
 go_wp2_with (first
  | (go_at_call 8; refine HSt.out.mono ?_; rintro e w1 ⟨rfl, hb1⟩; have HB1 : Hid (Below _ _ _) := hb1; clear hb1)
  | (go_at_call 9; refine (HLg.out _ HB1.out).mono ?_; rintro e w2 ⟨rfl, hb2⟩; have HB2 : Hid (Below w.heap.size w w2) := HB1.out.trans (hb2.mono HB1.out.size); clear hb2)
  | (go_at_call 11; refine (HOf.out _ HB2.out).mono ?_; rintro e w3 ⟨x, Bq, q, rfl, hB3⟩; have HI3 : Hid (IsBk w3 w2.heap.size x b) := hB3.prog; have HB3 : Hid (Below w.heap.size w w3) := HB2.out.trans (hB3.below.mono HB2.out.size); clear hB3)
  | (go_at_call 19; refine (bstock_any _ _ _ _ HI3.out).mono ?_; rintro e w4 ⟨p', b', rfl, hns⟩; have HN4 : Hid (NewSt _ _ _ _ _) := hns; have HI4 : Hid (IsBk w4 w2.heap.size x b) := HI3.out.below hns.below; have HB4 : Hid (Below w.heap.size w w4) := HB3.out.trans (hns.below.mono HB3.out.size); clear hns)
  | (go_at_call 31; refine (lines_any _ _ _ _ HN4.out.st).mono ?_; rintro e w5 ⟨gl, cl, rfl, hgl, hrl, hb5⟩; have HN5 : Hid (IsStock w5 p' b' b.2.2) := HN4.out.st.all hb5; have HI5 : Hid (IsBk w5 w2.heap.size x b) := HI4.out.below hb5; have HR5 : Hid (RowN w5 gl b.2.2) := hrl; have HB5 : Hid (Below w.heap.size w w5) := HB4.out.trans (hb5.mono HB4.out.size); clear hgl hrl hb5)
  | (go_at_call 15; refine (bgoods_any _ _ _ _ HI5.out).mono ?_; rintro e w6 ⟨vg, rfl, hg6, hb6⟩; obtain ⟨pg, cg, rfl, hg6'⟩ := hg6.shape; have HG6 : Hid (∀ i y, b.1[i]? = some y → ∃ g, pg = some ⟨g, 0, none⟩ ∧ g < w6.heap.size ∧ w6.cell? ⟨g, i * 2, none⟩ = some (.string y.1.1)) := hg6'; have HN6 : Hid (IsStock w6 p' b' b.2.2) := HN5.out.all hb6; have HI6 : Hid (IsBk w6 w2.heap.size x b) := HI5.out.below hb6; have HR6 : Hid (RowN w6 gl b.2.2) := HR5.out.below hb6; have HB6 : Hid (Below w.heap.size w w6) := HB5.out.trans (hb6.mono HB5.out.size); clear hg6 hg6' hb6))
 clear HSt HLg HOf HB1 HB2 HB3 HB4 HB5 HI3 HI4 HI5 HN4 HN5 HR5
 have hgl30 : b.1.length ≤ 30 := HOK.out.wf.gl
 have hln200 : b.2.2.length ≤ 200 := HOK.out.wf.st.len
 obtain ⟨nG, hnG⟩ : ∃ nG, nG = b.1.length := ⟨_, rfl⟩
 obtain ⟨nN, hnN⟩ : ∃ nN, nN = b.2.2.length := ⟨_, rfl⟩
 rw [← hnG] at hgl30 ⊢
 rw [← hnN] at hln200 ⊢
 have HnG : Hid (nG = b.1.length) := hnG
 have HnN : Hid (nN = b.2.2.length) := hnN
 clear hnG hnN
 go_loopw [9, 11] (fun a i wr => ∃ k : Nat, k ≤ nG ∧ i = .int .i64 k ∧ a = .int .i64 (sumG b k) ∧ Below w6.heap.size w6 wr) (fun _ i _ => nG - (RowKit.intOf i).toNat)
 case atStart => exact ⟨0, Nat.zero_le _, rfl, rfl, Below.refl _ _⟩
 case round =>
  obtain ⟨k, hk, rfl, rfl, hwr⟩ := hrel
  obtain ⟨wo, hwo⟩ : ∃ wo, wo = wr := ⟨wr, rfl⟩
  subst hwo
  have Hwo : Hid (Below w6.heap.size w6 wo) := hwr
  clear hwr
  by_cases hlt : k < nG
  ·obtain ⟨y, hy⟩ : ∃ y, b.1[k]? = some y := ⟨_, List.getElem?_eq_getElem (by rw [← HnG.out]; exact hlt)⟩
   obtain ⟨g, rfl, hgw, hcell⟩ := HG6.out k y hy
   have hc0 := (Hwo.out.cell (p := ⟨g, k * 2, none⟩) hgw).trans hcell
   have HC : Hid (∀ W, Below w6.heap.size w6 W → W.cell? ⟨g, k * 2, none⟩ = some (.string y.1.1)) := fun W hb => (hb.cell (p := ⟨g, k * 2, none⟩) hgw).trans hcell
   have hL := blots_any y.1.1 wo w2.heap.size x b (HI6.out.below Hwo.out) (Nat.le_trans H40.out (by decide))
   have HL : Hid (Calls Tryz.prog 20 _ _ _) := hL
   have HH : Hid (∀ W, Below w6.heap.size w6 W → Calls Tryz.prog 17 #[.pointer (some ⟨x.p, 0, none⟩), .string y.1.1] W fun e w' => e = .returned (.int .i64 (hasL b.2.2 y.1.1 b.2.1)) ∧ Below W.heap.size W w') := fun W hb => bhas_any y.1.1 W w2.heap.size x b (HI6.out.below hb)
   have HSm : Hid (sumG b (k + 1) = sumG b k + hasL b.2.2 y.1.1 b.2.1) := sum_take (f := fun g => hasL b.2.2 (nameG g) b.2.1) hy
   have HHb := sumG_bound HOK.out k
   have HHh : 0 ≤ hasL b.2.2 y.1.1 b.2.1 ∧ hasL b.2.2 y.1.1 b.2.1 ≤ 65970697666560 := by
    have h3 := hasL_bound HOK.out.wf.st y.1.1 b.2.1
    have h4 : (b.2.1.length : Int) * 1099511627776 ≤ 60 * 1099511627776 := Int.mul_le_mul_of_nonneg_right (by have := H40.out; omega) (by decide)
    exact ⟨h3.1, by omega⟩
   clear hL hcell hgw hy
   generalize hym : y.1.1 = yc at *
   clear hym
   obtain ⟨hv, hhv⟩ : ∃ hv, hv = hasL b.2.2 yc b.2.1 := ⟨_, rfl⟩
   have HV : Hid (hv = hasL b.2.2 yc b.2.1) := hhv
   rw [← hhv] at HHh HH HSm
   clear hhv
   go_wp2_with (go_at_call 20; refine HL.out.mono ?_; rintro e w7 ⟨vl, d, rfl, hld, hpm, hsd, hb7⟩; obtain ⟨pl, cl2, rfl, hl7⟩ := hld.shape; have HL7 : Hid (∀ j, j < d.size → ∃ g, pl = some ⟨g, 0, none⟩ ∧ w7.cell? ⟨g, j * 4, none⟩ = some (.string d[j]!.1)) := hl7; have HP7 : Hid (sumO b.2.2 d.toList d.size = hv) := (by show _ = _; rw [HV.out]; exact sumO_all hpm); have hd40 : d.size ≤ 40 := (by have h1 := hpm.length_eq; have h2 := lotsOf_le b.2.1 yc; have h3 := H40.out; simp at h1; omega); have HB7 : Hid (Below w6.heap.size w6 w7) := Hwo.out.trans (hb7.mono Hwo.out.size); clear hld hpm hsd hb7 hl7)
   obtain ⟨nD, hnD⟩ : ∃ nD, nD = d.size := ⟨_, rfl⟩
   have HnD : Hid (nD = d.size) := hnD
   rw [← hnD] at hd40 ⊢
   clear hnD
   go_loopw [12, 14] (fun a i wr => ∃ j : Nat, j ≤ nD ∧ i = .int .i64 j ∧ a = .int .i64 (sumO b.2.2 d.toList j) ∧ Below w7.heap.size w7 wr) (fun _ i _ => nD - (RowKit.intOf i).toNat)
   case atStart => exact ⟨0, Nat.zero_le _, rfl, rfl, Below.refl _ _⟩
   case round =>
    obtain ⟨j, hj, rfl, rfl, hwj⟩ := hrel
    have Hwj : Hid (Below w7.heap.size w7 wr) := hwj
    clear hwj
    have HB8 : Hid (Below w6.heap.size w6 wr) := HB7.out.trans (Hwj.out.mono HB7.out.size)
    have hjb := sumO_bound (j := j) HOK.out.wf.st (d := d.toList) (by have := HnD.out; simp; omega)
    by_cases hjl : j < nD
    ·obtain ⟨g2, rfl, hc2⟩ := HL7.out j (by rw [← HnD.out]; exact hjl)
     have hc3 := (Hwj.out.cell (p := ⟨g2, j * 4, none⟩) (cell_lt hc2)).trans hc2
     have hjt : d.toList[j]? = some d[j]! := by
      have hj9 : j < d.size := by rw [← HnD.out]; exact hjl
      rw [Array.getElem?_toList, Array.getElem?_eq_getElem hj9, getElem!_pos d j hj9]
     have HSo : Hid (sumO b.2.2 d.toList (j + 1) = sumO b.2.2 d.toList j + ofL b.2.2 d[j]!.1) := sum_take (f := fun l : Lo => ofL b.2.2 l.1) hjt
     have hO := of_any d[j]!.1 wr p' b' b.2.2 (HN6.out.all HB8.out)
     have ho1 : 0 ≤ ofL b.2.2 d[j]!.1 := ofL_nonneg (fun x hx => HOK.out.wf.st.pos x hx) _
     have ho2 : ofL b.2.2 d[j]!.1 ≤ 1099511627776 := HOK.out.wf.st.most _
     have HO : Hid (Calls Tryz.prog 22 _ _ _) := hO
     clear hO hc2 hjt
     generalize hdj : d[j]!.1 = dj at *
     clear hdj
     generalize ofL b.2.2 dj = oj at *
     go_wp2_with (go_at_call 22; refine HO.out.mono ?_; rintro e w9 ⟨rfl, hb9⟩; have HB9 : Hid (Below w7.heap.size w7 w9) := Hwj.out.trans (hb9.mono Hwj.out.size); clear hb9)
     go_roundw
     case rel => exact ⟨j + 1, by omega, by go_num, by rw [HSo.out], HB9.out⟩
     case measure => simp [RowKit.intOf]; omega
    ·have hjn : j = nD := by omega
     have hS : sumO b.2.2 d.toList j = hv := by rw [hjn, HnD.out]; exact HP7.out
     rw [hS] at hjb ⊢
     clear hS
     have hc9 := HC.out _ HB8.out
     go_wp2_with (go_at_call 17; refine (HH.out _ HB8.out).mono ?_; rintro e w9 ⟨rfl, hb9⟩; have HB9 : Hid (Below w6.heap.size w6 w9) := HB8.out.trans (hb9.mono HB8.out.size); clear hb9)
     exact ⟨⟨k + 1, by omega, by go_num, by rw [HSm.out], HB9.out⟩, by simp [RowKit.intOf]; omega⟩
  ·have hkn : k = nG := by omega
   have hS : sumG b k = sumN b.2.2 nN := by rw [hkn, HnG.out, HnN.out]; exact HGN.out
   rw [hS]
   clear hS
   have hTb := sumN_bound HOK.out.wf.st nN
   generalize hT : sumN b.2.2 nN = T at *
   have HT : Hid (sumN b.2.2 nN = T) := hT
   clear hT hkn
   have HB6' := HB6.out
   have hO6 := HO6.out w (Below.refl _ _)
   have HTx : Hid (∀ W P' B', IsStock W P' B' b.2.2 → Below w.heap.size w W → Calls Tryz.prog 34 #[.pointer (some ⟨P', 0, none⟩)] W fun e w' => e = .returned (.string (txt b.2.2)) ∧ IsStock w' P' B' b.2.2 ∧ Below w.heap.size w w' ∧ Below W.heap.size W w') := fun W P' B' h1 h2 => lawText hO6 W P' B' b.2.2 h1 h2
   have HRd : Hid (∀ W, Below w.heap.size w W → Calls Tryz.prog 33 #[.string (txt b.2.2)] W fun e w' => ∃ p b_1, e = .returned (.tuple #[.pointer (some ⟨p, 0, none⟩), .nilIface]) ∧ IsStock w' p b_1 b.2.2 ∧ Below w.heap.size w w' ∧ Below W.heap.size W w') := fun W h2 => lawBack hO6 W b.2.2 HOK.out.wf.st h2
   generalize txt b.2.2 = tz at *
   clear hO6 HB6'
   go_wp2
   go_loopw [9, 15] (fun a i wr => ∃ t : Nat, t ≤ nN ∧ i = .int .i64 t ∧ a = .int .i64 (T - sumN b.2.2 t) ∧ Below w6.heap.size w6 wr) (fun _ i _ => nN - (RowKit.intOf i).toNat)
   case atStart => exact ⟨0, Nat.zero_le _, rfl, by simp [sumN], Hwo.out⟩
   case round =>
    obtain ⟨t, ht, rfl, rfl, hwt⟩ := hrel
    have Hwt : Hid (Below w6.heap.size w6 wr) := hwt
    clear hwt
    have htb := sumN_bound HOK.out.wf.st t
    by_cases htl : t < nN
    ·obtain ⟨y, hy⟩ : ∃ y, b.2.2[t]? = some y := ⟨_, List.getElem?_eq_getElem (by rw [← HnN.out]; exact htl)⟩
     have hym := List.mem_of_getElem? hy
     have HSn : Hid (sumN b.2.2 (t + 1) = sumN b.2.2 t + y.2.2) := sum_take (f := fun y : Ln => y.2.2) hy
     obtain ⟨hkey, hsz⟩ := key_line HOK.out.wf.st hym
     have hat := at_line HOK.out.wf.st hym
     have hn1 := HOK.out.wf.st.pos y hym
     have hn2 := HOK.out.wf.st.qty hym
     have hil := isLot_line HPA.out hym
     have HLn : Hid (∀ W, Below w6.heap.size w6 W → LineAt W gl (t * 5) y) := fun W hb => (HR6.out.below hb) t y hy
     have HLo : Hid (Calls Tryz.prog 25 #[.pointer (some ⟨x.p, 0, none⟩), .string y.2.1] wr fun e w' => e = .returned (.tuple #[agQ (lotAt b y.2.1), .bool true]) ∧ Below wr.heap.size wr w') := by
      have := blot_any y.2.1 wr w2.heap.size x b (HI6.out.below Hwt.out) hsz
      rw [hil] at this
      exact this
     have HAt : Hid (∀ W, Below w6.heap.size w6 W → Calls Tryz.prog 32 #[.pointer (some ⟨p', 0, none⟩), agP y.1, .string y.2.1] W fun e w' => e = .returned (.int .i64 y.2.2) ∧ Below W.heap.size W w') := fun W hb => by
      have := at_any y.1 y.2.1 W p' b' b.2.2 (HN6.out.all hb) hkey
      rw [hat] at this
      exact this
     clear hkey hsz hat hil hym hy
     obtain ⟨lq, hlq⟩ : ∃ lq, lq = lotAt b y.2.1 := ⟨_, rfl⟩
     rw [← hlq] at HLo
     clear hlq
     obtain ⟨⟨ya, yr, yb⟩, yl, yn⟩ := y
     obtain ⟨q0, q1, q2, q3⟩ := lq
     unfold agQ agP at *
     simp only at *
     obtain ⟨c0, c1, c2, c3, c4⟩ := HLn.out _ Hwt.out
     simp only at c0 c1 c2 c3 c4
     have e1 : decide (yn < 1) = false := decide_eq_false (by omega)
     have e2 : ¬ yn < 1 := by omega
     go_wp2_with (go_at_call 25; refine HLo.out.mono ?_; rintro e w8 ⟨rfl, hb8⟩; have hb8' : Below w6.heap.size w6 w8 := Hwt.out.trans (hb8.mono Hwt.out.size); obtain ⟨W8, hW8⟩ : ∃ W8, w8.alloc (.cells #[.string q0, .string q1, .int .i64 q2, .int .i64 q3] 26) = W8 := ⟨_, rfl⟩; have hb9 : Below w6.heap.size w6 W8 := (by rw [← hW8]; exact hb8'.alloc hb8'.size _); obtain ⟨d0, d1, d2, d3, d4⟩ := HLn.out W8.drew hb9.drew; (try simp only at d0 d1 d2 d3 d4); have HB8 : Hid (Below w6.heap.size w6 W8.drew) := hb9.drew; clear hb8 hb8' hb9)
     go_region_held3 (fun w' => w'.cell? ⟨gl, t * 5, none⟩ = some (.string ya) ∧ w'.cell? ⟨gl, t * 5 + 1, none⟩ = some (.int .i64 yr) ∧ w'.cell? ⟨gl, t * 5 + 2, none⟩ = some (.int .i64 yb) ∧ w'.cell? ⟨gl, t * 5 + 3, none⟩ = some (.string yl) ∧ w'.cell? ⟨gl, t * 5 + 4, none⟩ = some (.int .i64 yn)) (go_keep)
      (first | (go_at_call 32; refine (HAt.out _ HB8.out).mono ?_; rintro e w9 ⟨rfl, hb9⟩; have hb9' : Below w6.heap.size w6 w9 := HB8.out.trans (hb9.mono HB8.out.size); obtain ⟨f0, f1, f2, f3, f4⟩ := HLn.out _ hb9'; (try simp only at f0 f1 f2 f3 f4); have HB9 : Hid (Below w6.heap.size w6 w9) := hb9'; clear hb9 hb9'))
     go_wp2
     go_roundw
     case rel => exact ⟨t + 1, by omega, by go_num, by rw [HSn.out]; congr 1; omega, HB9.out⟩
     case measure => simp [RowKit.intOf]; omega
    ·have htn : t = nN := by omega
     have hS : T - sumN b.2.2 t = 0 := by rw [htn, HT.out]; omega
     rw [hS]
     clear hS
     have hbw : Below w.heap.size w wr := HB6.out.trans (Hwt.out.mono HB6.out.size)
     have HT1 : Hid (Calls Tryz.prog 34 #[.pointer (some ⟨p', 0, none⟩)] wr _) := HTx.out wr p' b' (HN6.out.all Hwt.out) hbw
     clear hbw
     go_wp2_with (first
      | (go_at_call 34; refine HT1.out.mono ?_; clear HT1; rintro e w10 ⟨rfl, hi10, hb10, _⟩; have HI10 : Hid (IsStock w10 p' b' b.2.2) := hi10; have HB10 : Hid (Below w.heap.size w w10) := hb10; clear hi10 hb10)
      | (go_at_call 33; refine (HRd.out _ HB10.out).mono ?_; rintro e w11 ⟨p2, b2, rfl, hi11, hb11, hl11⟩; have HI11 : Hid (IsStock w11 p2 b2 b.2.2) := hi11; have HJ11 : Hid (IsStock w11 p' b' b.2.2) := HI10.out.all hl11; have HB11 : Hid (Below w.heap.size w w11) := hb11; have HT2 : Hid (Calls Tryz.prog 34 #[.pointer (some ⟨p2, 0, none⟩)] w11 _) := HTx.out w11 p2 b2 hi11 hb11; clear hi11 hb11 hl11)
      | (go_at_call 34; refine HT2.out.mono ?_; clear HT2; rintro e w12 ⟨rfl, _, hb12, hl12⟩; have HJ12 : Hid (IsStock w12 p' b' b.2.2) := HJ11.out.all hl12; have HB12 : Hid (Below w.heap.size w w12) := hb12; clear hb12 hl12)
      | (go_at_call 34; refine (HTx.out _ p' b' (HJ12.out.all ((Below.refl _ w12).alloc (Nat.le_refl _) _)) (HB12.out.alloc HB12.out.size _)).mono ?_; rintro e w13 ⟨rfl, _, hb13, hl13⟩; have c13 : w13.cell? ⟨w12.heap.size, 0, none⟩ = some (.string tz) := (hl13.cell (p := ⟨w12.heap.size, 0, none⟩) (by simp)).trans (by simp); have HB13 : Hid (Below w.heap.size w w13) := hb13; clear hb13 hl13)
      | (go_at_call 35; refine (sameTexts_one tz _ _ _ _ _ ((((Below.refl _ w13).alloc (Nat.le_refl _) _).cell (p := ⟨w12.heap.size, 0, none⟩) (cell_lt c13)).trans c13) (by simp)).mono ?_; rintro e w14 ⟨rfl, hb14⟩))
     go_ret
     exact ⟨rfl, (HB13.out.alloc HB13.out.size _).trans (hb14.mono (by have := HB13.out.size; simp; omega))⟩
theorem bookLots_long (v : Value) (w : World) (s : Nat → Addr) (hs : Sent w s) (hL : ∀ W, Below w.heap.size w W → Calls Tryz.prog 9 #[v, .int .i64 40] W fun r w' => r = .returned (.int .i64 1) ∧ Below W.heap.size W w') :
  Calls Tryz.prog 6 #[v] w fun e w' => e = .returned (.bool true) ∧ Below w.heap.size w w' := by
 have HSt : Hid (Calls Tryz.prog 8 _ _ _) := started_any w s hs.bs
 have HL : Hid (∀ W, Below w.heap.size w W → Calls Tryz.prog 9 #[v, .int .i64 40] W _) := hL
 clear hs hL
 go_enter Tryz.func6, Tryz.ntmps6
 go_wp2_with (first
  | (go_at_call 8; refine HSt.out.mono ?_; rintro e w1 ⟨rfl, hb1⟩; have HB1 : Hid (Below _ _ _) := hb1; clear hb1)
  | (go_at_call 9; refine (HL.out _ HB1.out).mono ?_; rintro e w2 ⟨rfl, hb2⟩))
 go_ret
 exact ⟨rfl, HB1.out.trans (hb2.mono HB1.out.size)⟩
theorem bookLots_any (v : Value) (w : World) (s : Nat → Addr) (hs : Sent w s) (hh : Handle w) (hpw : Pow w) (ho : (∃ ad c, v = .slice ad 0 c) ∨ ∃ b off c l, 1 ≤ l.length ∧ l.length ≤ maxLen ∧ v = .slice (some ⟨b, off, none⟩) l.length c ∧ Ents w b off l ∧ ∀ e ∈ l, SzE e) :
  Calls Tryz.prog 6 #[v] w fun e w' => e = .returned (.bool true) ∧ Below w.heap.size w w' := by
 rcases ho with ⟨ad, c, rfl⟩ | ⟨b, off, c, l, h1, hm, rfl, hE, hz⟩
 ·exact bookLots_in ad [] c w s hs hh hpw (by simp) (Or.inl rfl) (by decide) rfl
 ·by_cases h40 : l.length ≤ 40
  ·cases hl : longs l with
   | false => exact bookLots_in _ l c w s hs hh hpw hz (Or.inr ⟨b, off, rfl, hE⟩) h40 hl
   | true =>
    refine bookLots_long _ w s hs fun W hb => ?_
    have := longs_some l b off c 40 W (hE.below hE.lt hb) hz (by omega) (by decide)
    rw [hl] at this
    exact this
  ·refine bookLots_long _ w s hs fun W hb => ?_
   refine (longs_many (some ⟨b, off, none⟩) l.length c 40 W (by omega)).mono ?_
   rintro r w' ⟨rfl, rfl⟩
   exact ⟨rfl, Below.refl _ _⟩
end Go.Proofs.YteomomeigbfeoaaGreatDoor
