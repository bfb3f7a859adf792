/-
 What cost.Of answers of entries: layers and what went by them, or a fault of the first error, at its place; or that there are no such goods; nothing old is turn
-/
import Derived.Test.YtpnmbomjnpheeaaGreatDoorCoG
import Derived.Test.YtpnmbomjnpheeaaGreatDoorJz8
import Derived.Test.YtpnmbomjnpheeaaGreatDoorJz12
import Derived.Test.YtpnmbomjnpheeaaGreatDoorJz36
import Derived.Test.YtpnmbomjnpheeaaGreatDoorJz31
set_option maxRecDepth 100000
set_option maxHeartbeats 16000000
namespace Go.Proofs.YtpnmbomjnpheeaaGreatDoor
open Go.RowKit Go.Lib Go.Sort
def lyK (l : List En) (code : ByteArray) : Nat → List Ly × Int
 | 0 => ([], 0)
 | k + 1 => match l[k]? with
  | some e => ((stepK (bkTo l k) (lyK l code k).1 e code).1, IntKind.i64.wrap ((lyK l code k).2 + (stepK (bkTo l k) (lyK l code k).1 e code).2.1))
  | none => lyK l code k
def erK (l : List En) (code : ByteArray) (k : Nat) : Nat := match l[k]? with
 | some e => (stepK (bkTo l k) (lyK l code k).1 e code).2.2
 | none => 0
theorem lyK_succ {l : List En} {k : Nat} {e : En} (h : l[k]? = some e) (code : ByteArray) : lyK l code (k + 1) = ((stepK (bkTo l k) (lyK l code k).1 e code).1, IntKind.i64.wrap ((lyK l code k).2 + (stepK (bkTo l k) (lyK l code k).1 e code).2.1)) := by
 show (match l[k]? with | some e => _ | none => _) = _
 rw [h]
theorem erK_eq {l : List En} {k : Nat} {e : En} (h : l[k]? = some e) (code : ByteArray) : erK l code k = (stepK (bkTo l k) (lyK l code k).1 e code).2.2 := by
 unfold erK
 rw [h]
def CofK (w : World) (s : Nat → Addr) (l : List En) (code : ByteArray) (r : Ending) (w' : World) : Prop :=
 ((∀ j, j < l.length → erK l code j = 0) ∧ isGoods (bkTo l l.length) code = true ∧ ∃ px, r = .returned (.tuple #[ptrK px, .int .i64 (lyK l code l.length).2, .nilIface]) ∧ Ly1 w px w' (lyK l code l.length).1) ∨
 ((∀ j, j < l.length → erK l code j = 0) ∧ isGoods (bkTo l l.length) code = false ∧ r = .returned (.tuple #[nilP, .int .i64 0, err (s 5)])) ∨
 ∃ k, k < l.length ∧ (∀ j, j < k → erK l code j = 0) ∧ erK l code k ≠ 0 ∧ ∃ f, r = .returned (.tuple #[nilP, .int .i64 0, .iface 54 (.pointer (some ⟨f, 0, none⟩))]) ∧ w'.cell? ⟨f, 0, none⟩ = some (.int .i64 k) ∧ w'.cell? ⟨f, 1, none⟩ = some (err (s (erK l code k - 1)))
theorem cof_any (pp : Option Addr) (l : List En) (cap : Nat) (code : ByteArray) (w : World) (s : Nat → Addr) (hs : Bs w s) (hcs : Cs w s) (hz : ∀ e ∈ l, SzE e) (hr : l = [] ∨ ∃ bq off, pp = some ⟨bq, off, none⟩ ∧ Ents w bq off l) (h100 : l.length ≤ 1000) (hcz : code.size ≤ 30) :
  Calls Tryz.prog 6 #[.slice pp l.length cap, .string code] w fun r w' => CofK w s l code r w' ∧ Below w.heap.size w w' := by
 have HN : Hid (Calls Tryz.prog 15 _ _ _) := bnew_any w
 have HZ : Hid (∀ e ∈ l, SzE e) := hz
 have HN2 : Hid (∀ W x, IsBk W w.heap.size x ([], [], []) → Below w.heap.size w W → Calls Tryz.prog 11 #[] W fun e w' => ∃ px, e = .returned (ptrK px) ∧ Kb w x px ([], [], []) [] w') := fun W x hI hb => (Ly1.new_ W).mono fun e w' ⟨q, h1, h2⟩ => ⟨q, h1, hI.below h2.below, h2.ex.imp fun ks h => ⟨⟨h.r.top, h.r.lnk, h.r.nd, fun k hk => Nat.le_trans hb.size (h.r.lo k hk)⟩, h.ok⟩, hb.trans (h2.below.mono hb.size)⟩
 have HDo : Hid (∀ W x px k e, l[k]? = some e → Kb w x px (bkTo l k) (lyK l code k).1 W → Calls Tryz.prog 16 #[ptrK px, .pointer (some ⟨x.p, 0, none⟩), agE e, .string code] W fun r w' => ∃ z, r = .returned (.tuple #[.int .i64 z, errP s (erK l code k)]) ∧ IntKind.i64.wrap ((lyK l code k).2 + z) = (lyK l code (k + 1)).2 ∧ Kb w x px (bkTo l (k + 1)) (lyK l code (k + 1)).1 w') := fun W x px k e he h =>
  (cdo_any w W s x px _ _ e code h (hz e (List.mem_of_getElem? he)) hs hcs).mono fun r w' ⟨h1, h2⟩ => by
   rw [lyK_succ he, erK_eq he, bkTo_succ he]
   exact ⟨_, h1, rfl, h2⟩
 have HGo : Hid (∀ W x b, IsBk W w.heap.size x b → Calls Tryz.prog 17 #[.pointer (some ⟨x.p, 0, none⟩), .string code] W fun e w' => e = .returned (.tuple #[agG (goodsAt b code), .bool (isGoods b code)]) ∧ Below W.heap.size W w') := fun W x b h => bgoodsOf_any code W w.heap.size x b h (Nat.le_trans hcz (by decide))
 have HPs : Hid (∀ W, Below w.heap.size w W → Bs W s) := fun W hb => hs.below hb
 have HR : Hid (∀ W k e, l[k]? = some e → Below w.heap.size w W → ∃ bq off, pp = some ⟨bq, off, none⟩ ∧ EntO W bq (off + k * 14) e) := fun W k e he hb => by
  rcases hr with rfl | ⟨bq, off, h1, h2⟩
  ·simp at he
  ·exact ⟨bq, off, h1, (h2.below h2.lt hb).at_ k e he⟩
 unfold CofK
 obtain ⟨ln, hln⟩ : ∃ ln, l.length = ln := ⟨_, rfl⟩
 have HL : Hid (ln = l.length) := hln.symm
 rw [hln] at h100 ⊢
 clear hs hz hr hln hcs hcz
 go_enter Tryz.func6, Tryz.ntmps6
 go_wp2_with (first
  | (go_at_call 15; refine HN.out.mono ?_; rintro r w1 ⟨x, rfl, hI, hb1⟩; have HI : Hid (IsBk _ _ _ _) := hI; have HB1 : Hid (Below _ _ _) := hb1; clear hI hb1)
  | (go_at_call 11; refine (HN2.out _ _ HI.out HB1.out).mono ?_; rintro r w2 ⟨px, rfl, hk2⟩; have HK2 : Hid (Kb _ _ _ _ _ _) := hk2; clear hk2))
 go_loopw [9, 20] (fun vz i wr => ∃ k : Nat, k ≤ ln ∧ i = .int .i64 k ∧ vz = .int .i64 (lyK l code k).2 ∧ (∀ j, j < k → erK l code j = 0) ∧ Kb w x px (bkTo l k) (lyK l code k).1 wr) (fun _ i _ => ln - (RowKit.intOf i).toNat)
 case atStart => exact ⟨0, Nat.zero_le _, rfl, rfl, fun j hj => absurd hj (Nat.not_lt_zero _), HK2.out⟩
 case round =>
  obtain ⟨k, hk, rfl, rfl, hno, hK⟩ := hrel
  have HNo : Hid (∀ j, j < k → erK l code j = 0) := hno
  have HKk : Hid (Kb _ _ _ _ _ _) := hK
  clear hno
  by_cases hlt : k < ln
  ·have hkm : k < l.length := by rw [← HL.out]; exact hlt
   obtain ⟨e, he⟩ : ∃ e, l[k]? = some e := ⟨_, List.getElem?_eq_getElem hkm⟩
   obtain ⟨bq, off, rfl, hE⟩ := HR.out wr k e he hK.B
   have hE3 := BlkE.new wr e
   have hb3 : Below wr.heap.size wr (wr.alloc (celE e)) := (Below.refl _ wr).alloc (Nat.le_refl _) _
   obtain ⟨W3, hW3⟩ : ∃ W3, wr.alloc (celE e) = W3 := ⟨_, rfl⟩
   rw [hW3] at hE3 hb3
   have HD : Hid (Calls Tryz.prog 16 #[ptrK px, .pointer (some ⟨x.p, 0, none⟩), agE e, .string code] W3 _) := HDo.out W3 x px k e he (hK.on hb3)
   obtain ⟨c0, c1, c2, c3, c4, c5, c6, c7, c8, c9, c10, c11, c12, c13⟩ := hE
   obtain ⟨t0, t1, t2, t3, t4, t5, t6, t7, t8, t9, t10, t11, t12, t13⟩ := hE3.at
   clear hkm he hK hE3 hb3
   obtain ⟨ak, ⟨agc, agp⟩, ⟨ali, alc, alu, alk⟩, ⟨afz, afr, afb⟩, ⟨atz, atr, atb⟩, an⟩ := e
   unfold agE at HD
   unfold celE at hW3
   simp only at c0 c1 c2 c3 c4 c5 c6 c7 c8 c9 c10 c11 c12 c13 t0 t1 t2 t3 t4 t5 t6 t7 t8 t9 t10 t11 t12 t13 HD hW3
   by_cases hC : erK l code k = 0
   ·rw [hC] at HD
    simp only [errP_zero] at HD
    have HC : Hid (erK l code k = 0) := hC
    clear hC
    go_wp2_with (go_at_call 16; refine HD.out.mono ?_; rintro r w5 ⟨z, rfl, hz5, hK5⟩; have HK5 : Hid (Kb _ _ _ _ _ _) := hK5; have HZ5 : Hid (wrap64 ((lyK l code k).2 + z) = (lyK l code (k + 1)).2) := (by show _ = _; rw [wrap64_is]; exact hz5); clear hK5 hz5)
    go_roundw
    case rel => exact ⟨k + 1, by omega, by go_num, by rw [HZ5.out], fun j hj => by
     rcases Nat.lt_or_ge j k with h | h
     ·exact HNo.out j h
     ·obtain rfl : j = k := by omega
      exact HC.out, HK5.out⟩
    case measure => simp [RowKit.intOf]; omega
   ·simp only [errP_pos s hC] at HD
    have HC : Hid (erK l code k ≠ 0) := hC
    obtain ⟨ad, had⟩ : ∃ ad, s (erK l code k - 1) = ad := ⟨_, rfl⟩
    rw [had] at HD
    have HAd : Hid (s (erK l code k - 1) = ad) := had
    clear hC had
    go_wp2_with (go_at_call 16; refine HD.out.mono ?_; rintro r w5 ⟨z, rfl, _, hK5⟩; have HB5 : Hid (Below _ _ _) := hK5.B; clear hK5)
    refine bodyPost_ret (v := .tuple #[nilP, .int .i64 0, .iface 54 (.pointer (some ⟨w5.heap.size, 0, none⟩))]) (by simp [results, Tryz.results6, go_sem]) rfl ⟨Or.inr (Or.inr ⟨k, by omega, HNo.out, HC.out, w5.heap.size, rfl, ?_, ?_⟩), ?_⟩
    ·rw [World.cell?_alloc_at _ _ _ _ rfl]; rfl
    ·rw [World.cell?_alloc_at _ _ _ _ rfl, HAd.out]; rfl
    ·exact HB5.out.alloc HB5.out.size _
  ·have hkn : k = ln := by omega
   subst hkn
   have HG := HGo.out wr x _ hK.I
   generalize goodsAt (bkTo l k) code = gd at *
   obtain ⟨g1, g2⟩ := gd
   unfold agG at HG
   simp only at HG
   have HG : Hid (Calls Tryz.prog 17 _ wr _) := HG
   obtain ⟨ig, hig⟩ : ∃ ig, isGoods (bkTo l k) code = ig := ⟨_, rfl⟩
   have HIg : Hid (isGoods (bkTo l k) code = ig) := hig
   rw [hig] at HG
   clear hig hK
   cases ig
   ·go_wp2_with (go_at_call 17; refine HG.out.mono ?_; rintro r w5 ⟨rfl, hb5⟩; have HBA : Hid (Below w.heap.size w (w5.alloc (.cells #[.string g1, .int .i64 g2] 44))) := (HKk.out.B.trans (hb5.mono HKk.out.B.size)).alloc (Nat.le_trans HKk.out.B.size hb5.size) _; have q1 := (HPs.out _ HBA.out).none_; clear hb5)
    go_quiet (fail)
    go_wp2
    exact bodyPost_ret (v := .tuple #[nilP, .int .i64 0, err (s 5)]) (by simp [results, Tryz.results6, go_sem]) rfl ⟨Or.inr (Or.inl ⟨HNo.out, HIg.out, rfl⟩), below_drewN HBA.out _⟩
   ·go_wp2_with (go_at_call 17; refine HG.out.mono ?_; rintro r w5 ⟨rfl, hb5⟩; have HKA : Hid (Kb w x px (bkTo l k) (lyK l code k).1 (w5.alloc (.cells #[.string g1, .int .i64 g2] 44))) := (HKk.out.on hb5).on ((Below.refl _ w5).alloc (Nat.le_refl _) _); clear hb5)
    exact bodyPost_ret (v := .tuple #[ptrK px, .int .i64 (lyK l code k).2, .nilIface]) (by simp [results, Tryz.results6, go_sem]) rfl ⟨Or.inl ⟨HNo.out, HIg.out, px, rfl, HKA.out.L, HKA.out.B⟩, HKA.out.B⟩
end Go.Proofs.YtpnmbomjnpheeaaGreatDoor
namespace Go.Proofs.YtpnmbomjnpheeaaGreatDoor
open Go.RowKit Go.Lib Go.Sort
theorem findN_at {α : Type} {f : α → ByteArray} {m : List α} {c : ByteArray} {i : Nat} {x : α} (h : findI f m c = i) (hx : m[i]? = some x) : findN f m c = some x := by
 unfold findI at h
 cases h9 : m.findIdx? (fun x => decide (f x = c)) with
 | none =>
  rw [h9] at h
  have h : (-1 : Int) = i := h
  omega
 | some j =>
  rw [h9] at h
  simp only at h
  obtain rfl : j = i := by omega
  obtain ⟨hj, h1, h2⟩ := List.findIdx?_eq_some_iff_getElem.1 h9
  obtain ⟨_, h3⟩ := List.getElem?_eq_some_iff.1 hx
  unfold findN
  exact List.find?_eq_some_iff_getElem.2 ⟨by rw [← h3]; exact h1, j, hj, h3, fun k hk => by simpa using h2 k hk⟩
theorem lotAt_at {b : Bk} {c : ByteArray} {i : Nat} {x : Lh} (h : findI nameL b.2.1 c = i) (hx : b.2.1[i]? = some x) : lotAt b c = x.1 := by
 unfold lotAt
 rw [findN_at h hx]; rfl
theorem piece_lot {b : Bk} {e : En} (hw : WfB b) (hE : (doB b e).2 = 0) (h1 : e.1 ≠ kGoods) (h2 : e.1 ≠ kLot) : ∃ (k : Nat) (x : Lh), findI nameL (doB b e).1.2.1 e.2.2.1.1 = k ∧ (doB b e).1.2.1[k]? = some x := by
 by_cases he : entErr e = 0
 ·rcases findI_cases nameL b.2.1 e.2.2.1.1 with ⟨h9, _⟩ | ⟨k, l, hkL, hl, hid⟩
  ·rw [doB_none he h1 h2 (by omega)] at hE
   exact absurd hE (by show ¬ (6 : Nat) = 0; decide)
  ·obtain ⟨g0, hg0, hg1⟩ := hw.lots l (List.mem_of_getElem? hl)
   rcases findI_cases nameG b.1 l.1.2.1 with ⟨_, h8⟩ | ⟨i, g, hiG, hg, _⟩
   ·exact absurd hg1 (h8 g0 hg0)
   ·rw [doB_at he h1 h2 hkL hl hiG hg] at hE ⊢
    by_cases hp : pieceE b e l g = 0
    ·rw [if_pos hp]
     rcases findI_cases nameL (pieceB b e k l i g).2.1 e.2.2.1.1 with ⟨_, h7⟩ | ⟨k', x, h3, h4, _⟩
     ·have hm : (l.1, heldN e.1 l.2 e.2.2.2.2.2) ∈ (pieceB b e k l i g).2.1 := by
       unfold pieceB
       exact List.mem_of_getElem? (i := k) (by rw [List.getElem?_set_self (List.getElem?_eq_some_iff.1 hl).1])
      exact absurd (show nameL (l.1, heldN e.1 l.2 e.2.2.2.2.2) = _ from hid) (h7 _ hm)
     ·exact ⟨k', x, h3, h4⟩
    ·rw [if_neg hp] at hE
     exact absurd hE hp
 ·rw [doB_err he] at hE
  exact absurd hE he
theorem kGoods_ne : kGoods ≠ kIn ∧ kGoods ≠ kMore ∧ kGoods ≠ kOut ∧ kGoods ≠ kLess ∧ kLot ≠ kIn ∧ kLot ≠ kMore ∧ kLot ≠ kOut ∧ kLot ≠ kLess := by decide
theorem step_no {b : Bk} {e : En} {m : List Ly} {code : ByteArray} (hw : WfB b) (hE : (doB b e).2 = 0) (hk : findI nameL (doB b e).1.2.1 e.2.2.1.1 < 0) : stepK b m e code = (m, 0, 0) := by
 have hg : e.1 = kGoods ∨ e.1 = kLot := by
  by_cases h1 : e.1 = kGoods
  ·exact Or.inl h1
  by_cases h2 : e.1 = kLot
  ·exact Or.inr h2
  obtain ⟨k, x, h3, _⟩ := piece_lot hw hE h1 h2
  omega
 obtain ⟨n1, n2, n3, n4, n5, n6, n7, n8⟩ := kGoods_ne
 unfold stepK
 rw [if_pos hE]
 unfold stK
 by_cases hc : (lotAt (doB b e).1 e.2.2.1.1).2.1 = code
 ·rw [if_pos hc]
  rcases hg with h | h
  ·rw [h, if_neg (by rintro (h | h) <;> contradiction), if_neg (by rintro (h | h) <;> contradiction)]
  ·rw [h, if_neg (by rintro (h | h) <;> contradiction), if_neg (by rintro (h | h) <;> contradiction)]
 ·rw [if_neg hc]
section
variable {b : Bk} {e : En} {m : List Ly} {code : ByteArray} {k : Nat} {x : Lh}
theorem step_err (hE : (doB b e).2 ≠ 0) : stepK b m e code = (m, 0, (doB b e).2) := by unfold stepK; rw [if_neg hE]
theorem step_far (hE : (doB b e).2 = 0) (hk : findI nameL (doB b e).1.2.1 e.2.2.1.1 = k) (hx : (doB b e).1.2.1[k]? = some x) (hc : x.1.2.1 ≠ code) : stepK b m e code = (m, 0, 0) := by
 unfold stepK
 rw [if_pos hE]
 unfold stK
 rw [lotAt_at hk hx, if_neg hc]
theorem step_in (hE : (doB b e).2 = 0) (hk : findI nameL (doB b e).1.2.1 e.2.2.1.1 = k) (hx : (doB b e).1.2.1[k]? = some x) (hc : x.1.2.1 = code) (hi : e.1 = kIn ∨ e.1 = kMore) : stepK b m e code = (inL m e.2.2.2.2.2 x.1.2.2.2, 0, inE m e.2.2.2.2.2 x.1.2.2.2) := by
 unfold stepK
 rw [if_pos hE]
 unfold stK
 rw [lotAt_at hk hx, if_pos hc, if_pos hi]
theorem step_out (hE : (doB b e).2 = 0) (hk : findI nameL (doB b e).1.2.1 e.2.2.1.1 = k) (hx : (doB b e).1.2.1[k]? = some x) (hc : x.1.2.1 = code) (hi : ¬ (e.1 = kIn ∨ e.1 = kMore)) (ho : e.1 = kOut ∨ e.1 = kLess) : stepK b m e code = (outL m e.2.2.2.2.2, outN m e.2.2.2.2.2, outE m e.2.2.2.2.2) := by
 unfold stepK
 rw [if_pos hE]
 unfold stK
 rw [lotAt_at hk hx, if_pos hc, if_neg hi, if_pos ho]
theorem step_oth (hE : (doB b e).2 = 0) (hk : findI nameL (doB b e).1.2.1 e.2.2.1.1 = k) (hx : (doB b e).1.2.1[k]? = some x) (hc : x.1.2.1 = code) (hi : ¬ (e.1 = kIn ∨ e.1 = kMore)) (ho : ¬ (e.1 = kOut ∨ e.1 = kLess)) : stepK b m e code = (m, 0, 0) := by
 unfold stepK
 rw [if_pos hE]
 unfold stK
 rw [lotAt_at hk hx, if_pos hc, if_neg hi, if_neg ho]
end
theorem stepK_ok {b : Bk} {m : List Ly} (h : LyOk m) (e : En) (code : ByteArray) : LyOk (stepK b m e code).1 ∧ (stepK b m e code).1.length ≤ m.length + 1 ∧ (stepK b m e code).2.2 ≤ 12 := by
 unfold stepK stK
 have h1 := inL_len m e.2.2.2.2.2
 have h2 := outL_len m e.2.2.2.2.2
 have h3 := doB_le b e
 repeat' split
 ·refine ⟨h.in_ _ _, h1 _, ?_⟩
  show inE _ _ _ ≤ 12
  rcases inE_cases m e.2.2.2.2.2 (lotAt (doB b e).1 e.2.2.1.1).2.2.2 with q | q <;> omega
 ·exact ⟨h.out _, by show (outL _ _).length ≤ _; omega, outE_le _ _⟩
 ·exact ⟨h, Nat.le_succ _, Nat.zero_le _⟩
 ·exact ⟨h, Nat.le_succ _, Nat.zero_le _⟩
 ·exact ⟨h, Nat.le_succ _, h3⟩
theorem lyK_ok (l : List En) (code : ByteArray) : ∀ k, LyOk (lyK l code k).1 ∧ (lyK l code k).1.length ≤ k
 | 0 => ⟨LyOk.nil, Nat.le_refl _⟩
 | k + 1 => by
  obtain ⟨h1, h2⟩ := lyK_ok l code k
  cases he : l[k]? with
  | none =>
   have e : lyK l code (k + 1) = lyK l code k := by
    show (match l[k]? with | some e => _ | none => _) = _
    rw [he]
   rw [e]
   exact ⟨h1, Nat.le_succ_of_le h2⟩
  | some e =>
   rw [lyK_succ he]
   obtain ⟨g1, g2, _⟩ := stepK_ok (b := bkTo l k) h1 e code
   exact ⟨g1, by show (stepK _ _ _ _).1.length ≤ _; omega⟩
theorem erK_le (l : List En) (code : ByteArray) (k : Nat) : erK l code k ≤ 12 := by
 cases he : l[k]? with
 | none =>
  unfold erK
  rw [he]; exact Nat.zero_le _
 | some e =>
  rw [erK_eq he]
  exact (stepK_ok (lyK_ok l code k).1 e code).2.2
theorem erK_first (l : List En) (code : ByteArray) : ∀ n, (∀ j, j < n → erK l code j = 0) ∨ ∃ k, k < n ∧ (∀ j, j < k → erK l code j = 0) ∧ erK l code k ≠ 0
 | 0 => Or.inl fun j hj => absurd hj (Nat.not_lt_zero _)
 | n + 1 => by
  rcases erK_first l code n with h | ⟨k, hk, h1, h2⟩
  ·by_cases h9 : erK l code n = 0
   ·exact Or.inl fun j hj => by
     rcases Nat.lt_or_ge j n with q | q
     ·exact h j q
     ·obtain rfl : j = n := by omega
      exact h9
   ·exact Or.inr ⟨n, Nat.lt_succ_self _, h, h9⟩
  ·exact Or.inr ⟨k, by omega, h1, h2⟩
theorem Turn.other {B : Nat} {W W' : World} (ht : Turn B W W') {k : Nat} {c : Array Value} {T : TypeId} {f : Nat × Nat} (hk : W.heap[k]? = some (.cells c T f)) (hT : ¬ refT T) : W'.heap[k]? = some (.cells c T f) := by
 rcases ht.keeps k (Array.getElem?_eq_some_iff.1 hk).1 with e | ⟨c2, f2, c', f', T', hT', e1, _⟩
 ·exact e.trans hk
 ·rw [hk] at e1
  injection e1 with e1
  injection e1 with _ e5 _
  subst e5
  exact absurd hT' hT
theorem OffR.other {W W' : World} (ho : OffR W W') {k : Nat} {c : Array Value} {T : TypeId} {f : Nat × Nat} (hk : W.heap[k]? = some (.cells c T f)) (n1 : T ≠ 69) (n2 : T ≠ 88) : W'.heap[k]? = some (.cells c T f) := by
 refine (ho.block k (Array.getElem?_eq_some_iff.1 hk).1 ?_).trans hk
 rintro (⟨c', h'⟩ | ⟨c', h'⟩)
 ·rw [hk] at h'
  injection h' with h'
  injection h' with _ e5 _
  exact n1 e5
 ·rw [hk] at h'
  injection h' with h'
  injection h' with _ e5 _
  exact n2 e5
theorem RefY.turn {W W' : World} {B B' q : Nat} {m : List Ly} (h : RefY W B q m) (ht : Turn B' W W') : RefY W' B q m := by
 obtain ⟨v, h1, h2⟩ := h.ex
 refine ⟨⟨v, ht.other h1 (by unfold refT; decide), h2.kept fun g hg => ?_⟩, h.lo⟩
 obtain ⟨c, hc⟩ := h2.kind hg
 rw [hc]
 exact ht.other hc (by unfold refT; decide)
theorem Enc.Row.kind {α : Type} {E : Enc α} {w : World} {B : Nat} {T : TypeId} {v : Value} {m : List α} (h : E.Row w B T v m) {g : Nat} (hg : v.ownBlock = some g) : ∃ c, w.heap[g]? = some (.cells c T (0, 0)) := by
 rcases h.2 with ⟨rfl, _⟩ | ⟨g', cap, cur, rfl, h2, hg', h3⟩
 ·cases hg
 ·cases hg
  exact ⟨_, hg'⟩
theorem Enc.Row.offR {α : Type} {E : Enc α} {w w' : World} {B : Nat} {T : TypeId} {v : Value} {m : List α} (h : E.Row w B T v m) (ho : OffR w w') (n1 : T ≠ 69) (n2 : T ≠ 88) : E.Row w' B T v m :=
 h.kept fun g hg => by
  obtain ⟨c, hc⟩ := h.kind hg
  rw [hc]
  exact ho.other hc n1 n2
theorem RefB.offR {W W' : World} {B q : Nat} {b : Bk} (h : RefB W B q b) (ho : OffR W W') : RefB W' B q b := by
 obtain ⟨vG, vL, vS, k1, k2, k3, k4, k5⟩ := h
 exact ⟨vG, vL, vS, ho.other k1 (by decide) (by decide), k2.offR ho (by decide) (by decide), k3.offR ho (by decide) (by decide), k4.offR ho (by decide) (by decide), k5⟩
structure Rb (U : World) (n : Nat) (b : Bk) (m : List Ly) (W : World) : Prop where
 R : RefB W n n b
 Y : RefY W n (n + 1) m
 B : Below n U W
section
variable {U W W' : World} {n : Nat} {b : Bk} {m : List Ly}
theorem Rb.le (h : Rb U n b m W) : n ≤ W.heap.size := h.R.baseLe
theorem Rb.on (h : Rb U n b m W) (hb : Below W.heap.size W W') : Rb U n b m W' := ⟨h.R.below hb, h.Y.below hb, h.B.trans (hb.mono h.le)⟩
theorem Rb.do_ (h : Rb U n b m W) {e : En} (hz : SzE e) (hw : WfB b) :
  Calls Tryz.prog 18 #[.pointer (some ⟨n, 0, none⟩), agE e] W fun r w' => r = .returned (.int .i64 (doB b e).2) ∧ Rb U n (doB b e).1 m w' ∧ Turn n W w' :=
 (refDo_any W n n b e h.R hz hw).mono fun _ _ ⟨h1, h2, h3⟩ => ⟨h1, ⟨h2, h.Y.turn h3, h.B.trans h3.below⟩, h3⟩
theorem Rb.in_ (h : Rb U n b m W) (hok : LyOk m) (hl : m.length ≤ 800) (z c : Int) :
  Calls Tryz.prog 20 #[ptrK (n + 1), .int .i64 z, .int .i64 c] W fun r w' => r = .returned (.int .i64 (inE m z c)) ∧ Rb U n b (inL m z c) w' ∧ OffR W w' :=
 (rin_any W n (n + 1) m z c h.Y hok hl).mono fun _ _ ⟨h1, h2, h3⟩ => ⟨h1, ⟨h.R.offR h3.off, h2, h.B.trans h3.below⟩, h3.off⟩
theorem Rb.out_ (h : Rb U n b m W) (hok : LyOk m) (hl : m.length ≤ 800) (z : Int) :
  Calls Tryz.prog 21 #[ptrK (n + 1), .int .i64 z] W fun r w' => r = .returned (.tuple #[.int .i64 (outN m z), .int .i64 (outE m z)]) ∧ Rb U n b (outL m z) w' ∧ OffR W w' :=
 (rout_any W n (n + 1) m z h.Y hok (by omega)).mono fun _ _ ⟨h1, h2, h3⟩ => ⟨h1, ⟨h.R.offR h3.off, h2, h.B.trans h3.below⟩, h3.off⟩
theorem Rb.lot_ (h : Rb U n b m W) (hok : BkOk b) (c : ByteArray) : Calls Tryz.prog 19 #[.pointer (some ⟨n, 0, none⟩), .string c] W fun r w' => r = .returned (.int .i64 (findI nameL b.2.1 c)) ∧ w' = W := findL_any W n n b c h.R (by have := hok.wf.ll; omega)
theorem Rb.goods_ (h : Rb U n b m W) (hok : BkOk b) (c : ByteArray) : Calls Tryz.prog 22 #[.pointer (some ⟨n, 0, none⟩), .string c] W fun r w' => r = .returned (.int .i64 (findI nameG b.1 c)) ∧ w' = W := findG_any W n n b c h.R (by have := hok.wf.gl; omega)
theorem Rb.lotCells (h : Rb U n b m W) {k : Nat} {x : Lh} (hx : b.2.1[k]? = some x) : ∃ g cap, W.cell? ⟨n, 1, none⟩ = some (.slice (some ⟨g, 0, none⟩) b.2.1.length cap) ∧ W.cell? ⟨g, k * 5, none⟩ = some (.string x.1.1) ∧ W.cell? ⟨g, k * 5 + 1, none⟩ = some (.string x.1.2.1) ∧ W.cell? ⟨g, k * 5 + 2, none⟩ = some (.int .i64 x.1.2.2.1) ∧ W.cell? ⟨g, k * 5 + 3, none⟩ = some (.int .i64 x.1.2.2.2) := by
 obtain ⟨vG, vL, vS, h1, h2, h3, h4, h5⟩ := h.R
 rcases h3.forms with ⟨_, h0⟩ | ⟨g, cap, rfl, _, _, _, _, hc⟩
 ·rw [h0] at hx
  simp at hx
 ·have key : ∀ c, c < 5 → W.cell? ⟨g, k * 5 + c, none⟩ = (encLh.enc x)[c]? := fun c h9 => hc k x c hx h9
  exact ⟨g, cap, by rw [cell_of_heap h1]; rfl, key 0 (by decide), key 1 (by decide), key 2 (by decide), key 3 (by decide)⟩
end
end Go.Proofs.YtpnmbomjnpheeaaGreatDoor
