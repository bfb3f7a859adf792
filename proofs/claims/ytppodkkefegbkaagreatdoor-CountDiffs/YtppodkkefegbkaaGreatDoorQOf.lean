/-
 What BookOf answers of entries: the program's book and the reference's, both as the entries make them; nothing old is turned.
-/
import Derived.Test.YtppodkkefegbkaaGreatDoorJz29
import Derived.Test.YtppodkkefegbkaaGreatDoorBDo
import Derived.Test.YtppodkkefegbkaaGreatDoorJz12
import Derived.Test.YtppodkkefegbkaaGreatDoorJz4
set_option maxRecDepth 100000
set_option maxHeartbeats 16000000
namespace Go.Proofs.YtppodkkefegbkaaGreatDoor
open Go.RowKit Go.Lib Go.Sort
theorem Enc.Row.of_blocks {α : Type} {E : Enc α} {w w' : World} {B : Nat} {T : TypeId} {v : Value} {m : List α} (h : E.Row w B T v m) (hk : ∀ (g : Nat) (cur : Array Value), w.heap[g]? = some (Obj.cells cur T (0, 0)) → w'.heap[g]? = w.heap[g]?) : E.Row w' B T v m := by
 rcases h.2 with ⟨h1, h2⟩ | ⟨g, cap, cur, hv, hB, hg, h3, h4, h5, h6⟩
 ·exact ⟨h.1, Or.inl ⟨h1, h2⟩⟩
 ·exact ⟨h.1, Or.inr ⟨g, cap, cur, hv, hB, (hk g cur hg).trans hg, h3, h4, h5, h6⟩⟩
theorem RefB.off {w w' : World} {Bq q : Nat} {b b' : Bk} {B : Nat} {x : Bl} (h : RefB w Bq q b) (hx : IsBk w B x b') (hf : Off x.all w w') : RefB w' Bq q b := by
 obtain ⟨ps, bs, hx⟩ := hx
 have key : ∀ {g : Nat} {c : Array Value} {T : TypeId}, w.heap[g]? = some (.cells c T (0, 0)) → T ≠ 92 → w'.heap[g]? = w.heap[g]? := fun {g c T} hg hT => by
  refine hf.block g (Array.getElem?_eq_some_iff.1 hg).1 fun e => ?_
  have hm : ∀ {k : Nat} {L : List Ent}, MapL Tryz.prog 9 w k L → g ≠ k := fun hM e9 => by
   obtain ⟨es, ck, hb, _⟩ := hM
   rw [← e9, hg] at hb
   cases hb
  unfold Bl.all at e
  simp at e
  rcases e with e | e | e | e | e
  ·rw [e, hx.blk] at hg
   injection hg with hg
   injection hg with _ h2 _
   exact hT h2.symm
  ·exact hm hx.G e
  ·exact hm hx.U e
  ·exact hm hx.L e
  ·exact hm hx.H e
 obtain ⟨vG, vL, vS, h1, h2, h3, h4, h5⟩ := h
 exact ⟨vG, vL, vS, (key h1 (by decide)).trans h1, h2.of_blocks fun g c hg => key hg (by decide), h3.of_blocks fun g c hg => key hg (by decide), h4.of_blocks fun g c hg => key hg (by decide), h5⟩
theorem IsBk.turn {w w' : World} {B B' : Nat} {x : Bl} {b : Bk} (h : IsBk w B x b) (ht : Turn B' w w') : IsBk w' B x b := by
 obtain ⟨ps, bs, h⟩ := h
 have hm : ∀ {k : Nat} {L : List Ent} {kt : TypeId}, MapL Tryz.prog kt w k L → w'.heap[k]? = w.heap[k]? := fun {k L kt} hM => by
  rcases ht.keeps k hM.lt with e | ⟨c, f, c', f', T, hT, e1, e2⟩
  ·exact e
  ·obtain ⟨es, ck, hb, _⟩ := hM
   rw [hb] at e1
   cases e1
 have hc : ∀ {k : Nat} {c : Array Value} {T : TypeId}, w.heap[k]? = some (.cells c T (0, 0)) → ¬ refT T → w'.heap[k]? = w.heap[k]? := fun {k c T} hk hT => by
  rcases ht.keeps k (Array.getElem?_eq_some_iff.1 hk).1 with e | ⟨c, f, c', f', T', hT', e1, e2⟩
  ·exact e
  ·rw [hk] at e1
   injection e1 with e1
   injection e1 with _ e5 _
   subst e5
   exact absurd hT' hT
 refine ⟨ps, bs, h.of_blocks fun k hk => ?_⟩
 rcases hk with rfl | rfl | rfl | rfl | rfl | rfl | rfl
 ·exact hc h.blk (by unfold refT; decide)
 ·exact hm h.G
 ·exact hm h.U
 ·exact hm h.L
 ·exact hm h.H
 ·exact hc h.sblk (by unfold refT; decide)
 ·exact hm h.S.map
structure Both (w W : World) (x : Bl) (Bq q : Nat) (b : Bk) : Prop where
 below : Below w.heap.size w W
 prog : IsBk W w.heap.size x b
 ref : RefB W Bq q b
 base : w.heap.size ≤ Bq
theorem Both.later {w W W' : World} {x : Bl} {Bq q : Nat} {b : Bk} (h : Both w W x Bq q b) (hb : Below W.heap.size W W') : Both w W' x Bq q b := ⟨h.below.trans (hb.mono h.below.size), h.prog.below hb, h.ref.below hb, h.base⟩
theorem bookOf_any (pp : Option Addr) (l : List En) (cap : Nat) (w : World) (s : Nat → Addr) (hs : Sent w s) (hh : Handle w) (hz : ∀ e ∈ l, SzE e) (hr : l = [] ∨ ∃ bq off, pp = some ⟨bq, off, none⟩ ∧ Ents w bq off l) (h100 : l.length ≤ 1000) :
  Calls Tryz.prog 9 #[.slice pp l.length cap] w fun e w' => ∃ x Bq q, e = .returned (.tuple #[.pointer (some ⟨x.p, 0, none⟩), .pointer (some ⟨q, 0, none⟩), .bool true]) ∧ Both w w' x Bq q (bkTo l l.length) := by
 have HN : Hid (Calls Tryz.prog 28 _ _ _) := bnew_any w
 have HS : Hid (∀ W, Below w.heap.size w W → Sent W s ∧ Handle W) := fun W hb => ⟨hs.below hb, hh.below hb⟩
 have HZ : Hid (∀ e ∈ l, SzE e) := hz
 have HR : Hid (∀ W k e, l[k]? = some e → Below w.heap.size w W → ∃ bq off, pp = some ⟨bq, off, none⟩ ∧ EntO W bq (off + k * 14) e) := fun W k e he hb => by
  rcases hr with rfl | ⟨bq, off, h1, h2⟩
  ·simp at he
  ·exact ⟨bq, off, h1, (h2.below h2.lt hb).at_ k e he⟩
 obtain ⟨ln, hln⟩ : ∃ ln, l.length = ln := ⟨_, rfl⟩
 have HL : Hid (ln = l.length) := hln.symm
 rw [hln] at h100 ⊢
 clear hs hh hz hr hln
 go_enter Tryz.func9, Tryz.ntmps9
 go_wp2_with (go_at_call 28; refine HN.out.mono ?_; rintro e w1 ⟨x, rfl, hI, hb1⟩; have HI : Hid (IsBk _ _ _ _) := hI; have HB1 : Hid (Below _ _ _) := hb1; clear hI hb1)
 have hb2 : Below w1.heap.size w1 (w1.alloc (.cells #[.slice none 0 0, .slice none 0 0, .slice none 0 0] 78)) := (Below.refl _ w1).alloc (Nat.le_refl _) _
 have n2 := heap_alloc_new w1 (.cells #[.slice none 0 0, .slice none 0 0, .slice none 0 0] 78)
 have HBo : Hid (Both w (w1.alloc (.cells #[.slice none 0 0, .slice none 0 0, .slice none 0 0] 78)) x w1.heap.size w1.heap.size (bkTo l 0)) := ⟨HB1.out.trans (hb2.mono HB1.out.size), HI.out.below hb2, ⟨_, _, _, n2, World.ownsRow_nil _ _ _ _, World.ownsRow_nil _ _ _ _, World.ownsRow_nil _ _ _ _, Nat.le_refl _⟩, HB1.out.size⟩
 clear hb2 n2
 generalize hU : w1.alloc (.cells #[.slice none 0 0, .slice none 0 0, .slice none 0 0] 78) = U at *
 clear hU
 generalize w1.heap.size = q at *
 clear HI HB1
 go_loopw [7] (fun i wr => ∃ k : Nat, k ≤ ln ∧ i = .int .i64 k ∧ Both w wr x q q (bkTo l k)) (fun i _ => ln - (RowKit.intOf i).toNat)
 case atStart => exact ⟨0, Nat.zero_le _, rfl, HBo.out⟩
 case round =>
  obtain ⟨k, hk, rfl, hBo⟩ := hrel
  have HBk : Hid (Both _ _ _ _ _ _) := hBo
  by_cases hlt : k < ln
  ·have hkm : k < l.length := by rw [← HL.out]; exact hlt
   obtain ⟨e, he⟩ : ∃ e, l[k]? = some e := ⟨_, List.getElem?_eq_getElem hkm⟩
   have hze := HZ.out e (List.mem_of_getElem? he)
   obtain ⟨bq, off, rfl, hE⟩ := HR.out wr.drew k e he hBo.below.drew
   have hBd : Both w wr.drew x q q (bkTo l k) := hBo.later (Below.refl _ _).drew
   have hD := bdo_any wr.drew s w.heap.size x (bkTo l k) e hBd.prog hze (HS.out _ hBd.below).1.bs
   have HD2 : Hid (∀ W, Below w.heap.size w W → IsBk W w.heap.size x (bkTo l (k + 1)) → RefB W q q (bkTo l k) → w.heap.size ≤ q → Calls Tryz.prog 29 #[.pointer (some ⟨q, 0, none⟩), agE e] W fun r w' => r = .returned (.int .i64 ((doB (bkTo l k) e).2 : Int)) ∧ Both w w' x q q (bkTo l (k + 1)) ∧ EntO w' bq (off + k * 14) e) := fun W hb h1 h2 h3 =>
    (refDo_any W q q (bkTo l k) e h2 hze (bkTo_ok l k).wf).mono fun r w' ⟨r1, r2, r3⟩ => by
     have hbw : Below w.heap.size w w' := hb.trans (r3.below.mono h3)
     obtain ⟨bq', off', e1, e2⟩ := HR.out w' k e he hbw
     cases e1
     exact ⟨r1, ⟨hbw, h1.turn r3, by rw [bkTo_succ he]; exact r2, h3⟩, e2⟩
   have HE : Hid (∀ W, Below w.heap.size w W → EntO W bq (off + k * 14) e) := fun W hb => by
    obtain ⟨bq', off', e1, e2⟩ := HR.out W k e he hb
    cases e1
    exact e2
   have HD1 : Hid (Calls Tryz.prog 11 #[.pointer (some ⟨x.p, 0, none⟩), agE e] wr.drew fun r w' => r = .returned (errP s (doB (bkTo l k) e).2) ∧ Below w.heap.size w w' ∧ IsBk w' w.heap.size x (bkTo l (k + 1)) ∧ RefB w' q q (bkTo l k)) := hD.mono fun r w' ⟨r1, r2, r3⟩ => ⟨r1, hBd.below.trans (r3.below hBd.below.size (fun k hk => (hBd.prog.low k hk).1)), by rw [bkTo_succ he]; exact r2, hBd.ref.off hBd.prog r3⟩
   have HCd : Hid (∀ W, Below w.heap.size w W → Calls Tryz.prog 23 #[errP s (doB (bkTo l k) e).2, .int .i64 ((doB (bkTo l k) e).2 : Int)] W fun r w' => r = .returned (.bool true) ∧ Below W.heap.size W w') := fun W hb => by
    have := codedP_any2 s (doB (bkTo l k) e).2 (doB_le _ _) ((doB (bkTo l k) e).2 : Int) W (HS.out W hb).1 (HS.out W hb).2
    simpa using this
   have Hq : Hid (w.heap.size ≤ q) := hBo.base
   generalize (doB (bkTo l k) e).2 = C at *
   obtain ⟨c0, c1, c2, c3, c4, c5, c6, c7, c8, c9, c10, c11, c12, c13⟩ := hE
   clear hD hze hkm hBo hBd he
   obtain ⟨ak, ⟨agc, agp⟩, ⟨ali, alc, alu, alk⟩, ⟨afz, afr, afb⟩, ⟨atz, atr, atb⟩, an⟩ := e
   unfold agE at *
   simp only at c0 c1 c2 c3 c4 c5 c6 c7 c8 c9 c10 c11 c12 c13 HD1 HD2 HE
   go_wp2
   go_region_held3 (fun w' => w'.cell? ⟨bq, off + k * 14, none⟩ = some (.string ak) ∧ w'.cell? ⟨bq, off + k * 14 + 1, none⟩ = some (.string agc) ∧ w'.cell? ⟨bq, off + k * 14 + 2, none⟩ = some (.int .i64 agp) ∧ w'.cell? ⟨bq, off + k * 14 + 3, none⟩ = some (.string ali) ∧ w'.cell? ⟨bq, off + k * 14 + 4, none⟩ = some (.string alc) ∧ w'.cell? ⟨bq, off + k * 14 + 5, none⟩ = some (.int .i64 alu) ∧ w'.cell? ⟨bq, off + k * 14 + 6, none⟩ = some (.int .i64 alk) ∧ w'.cell? ⟨bq, off + k * 14 + 7, none⟩ = some (.string afz) ∧ w'.cell? ⟨bq, off + k * 14 + 8, none⟩ = some (.int .i64 afr) ∧ w'.cell? ⟨bq, off + k * 14 + 9, none⟩ = some (.int .i64 afb) ∧ w'.cell? ⟨bq, off + k * 14 + 10, none⟩ = some (.string atz) ∧ w'.cell? ⟨bq, off + k * 14 + 11, none⟩ = some (.int .i64 atr) ∧ w'.cell? ⟨bq, off + k * 14 + 12, none⟩ = some (.int .i64 atb) ∧ w'.cell? ⟨bq, off + k * 14 + 13, none⟩ = some (.int .i64 an)) (go_keep) (first | (go_at_call 11; refine HD1.out.mono ?_; rintro r w3 ⟨rfl, hb3, hi3, hr3⟩; obtain ⟨d0, d1, d2, d3, d4, d5, d6, d7, d8, d9, d10, d11, d12, d13⟩ := HE.out _ hb3; (try simp only at d0 d1 d2 d3 d4 d5 d6 d7 d8 d9 d10 d11 d12 d13); have Hb3 : Hid (Below _ _ _) := hb3; have Hi3 : Hid (IsBk _ _ _ _) := hi3; have Hr3 : Hid (RefB _ _ _ _) := hr3; clear hb3 hi3 hr3) | (go_at_call 29; refine (HD2.out _ Hb3.out Hi3.out Hr3.out Hq.out).mono ?_; rintro r w4 ⟨rfl, hB4, hE4⟩; obtain ⟨f0, f1, f2, f3, f4, f5, f6, f7, f8, f9, f10, f11, f12, f13⟩ := hE4; (try simp only at f0 f1 f2 f3 f4 f5 f6 f7 f8 f9 f10 f11 f12 f13); have HB4 : Hid (Both _ _ _ _ _ _) := hB4; clear hB4) | (go_at_call 23; refine (HCd.out _ HB4.out.below).mono ?_; rintro r w5 ⟨rfl, hb5⟩; have hB5 := HB4.out.later hb5; obtain ⟨g0, g1, g2, g3, g4, g5, g6, g7, g8, g9, g10, g11, g12, g13⟩ := HE.out _ hB5.below; (try simp only at g0 g1 g2 g3 g4 g5 g6 g7 g8 g9 g10 g11 g12 g13); have HB5 : Hid (Both _ _ _ _ _ _) := hB5; clear hB5 hb5))
   go_wp2
   go_roundw
   case rel => exact ⟨k + 1, by omega, by go_num, HB5.out⟩
   case measure => simp [RowKit.intOf]; omega
  ·have hkn : k = ln := by omega
   subst hkn
   go_wp2
   exact bodyPost_ret (v := .tuple #[.pointer (some ⟨x.p, 0, none⟩), .pointer (some ⟨q, 0, none⟩), .bool true]) (by simp [results, Tryz.results9, go_sem]) rfl ⟨x, q, q, rfl, HBk.out⟩
end Go.Proofs.YtppodkkefegbkaaGreatDoor
