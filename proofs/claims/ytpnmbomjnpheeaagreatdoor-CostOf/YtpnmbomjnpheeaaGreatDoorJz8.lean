/-
 What place.Read answers, over every world that holds the sentinels ErrText, ErrName and ErrBound as the program lays them; condition: the text is no longer than
-/
import Derived.Test.YtpnmbomjnpheeaaGreatDoorJz4
import Derived.Test.YtpnmbomjnpheeaaGreatDoorJz3
import Derived.Deep.RegionHeld3
import Derived.OwnWalk
import Derived.Lib.SmallJoins
import Derived.Deep.AppendLies
import Derived.BigRegion
set_option maxRecDepth 100000
set_option maxHeartbeats 16000000
namespace Go.Proofs.YtpnmbomjnpheeaaGreatDoor
open Go.RowKit Go.Lib Go.Sort
abbrev made (w : World) : World := w.alloc (.cells #[.string ⟨#[]⟩, .int .i64 0, .int .i64 0] 48)
end Go.Proofs.YtpnmbomjnpheeaaGreatDoor
namespace Go.Proofs.YtpnmbomjnpheeaaGreatDoor
open Go.RowKit Go.Lib
theorem Lnk.get {w : World} {v : Value} : ∀ {ks : List Nat} {m : List Ly} {j : Nat} {x : Ly}, Lnk w ks m v → m[j]? = some x → ∃ k, ks.drop j = k :: ks.drop (j + 1) ∧ w.heap[k]? = some (celY x (hdY (ks.drop (j + 1)) v))
 | ks, [], j, x, _, h => by simp at h
 | [], x :: m, j, y, h, _ => absurd h (by intro h; exact h)
 | k :: ks, x :: m, 0, y, h, hx => by
  simp at hx
  subst hx
  exact ⟨k, rfl, h.1⟩
 | k :: ks, x :: m, j + 1, y, h, hx => by
  have := Lnk.get (j := j) h.2 (by simpa using hx)
  simpa using this
theorem worthY_succ {m : List Ly} {j : Nat} {x : Ly} (h : m[j]? = some x) : worthY (m.take (j + 1)) = worthY (m.take j) + x.1 * x.2 := by
 rw [List.take_add_one, h, worthY_app]
 show _ + worthY [x] = _
 rw [worthY_cons, worthY_nil]; omega
theorem worthY_take {m : List Ly} (h : LyOk m) (j : Nat) : 0 ≤ worthY (m.take j) ∧ worthY (m.take j) ≤ 1152921504606846976 := by
 have h1 : PosY (m.take j) := fun x hx => h.pos x (List.mem_of_mem_take hx)
 have h2 := hasY_take h.pos j
 have h3 := h.most
 obtain ⟨h4, h5⟩ := worthY_bound h1
 omega
theorem LyR.step {w : World} {B q : Nat} {ks : List Nat} {m : List Ly} {H : Int} (h : LyR w B q ks m H) {j : Nat} {x : Ly} (hx : m[j]? = some x) : ∃ k, hdY (ks.drop j) nilP = ptrK k ∧ k < w.heap.size ∧ ∀ W, Below w.heap.size w W → W.cell? ⟨k, 0, none⟩ = some (.int .i64 x.1) ∧ W.cell? ⟨k, 1, none⟩ = some (.int .i64 x.2) ∧ W.cell? ⟨k, 2, none⟩ = some (hdY (ks.drop (j + 1)) nilP) := by
 obtain ⟨k, e, hk⟩ := h.lnk.get hx
 have hlt := (Array.getElem?_eq_some_iff.1 hk).1
 refine ⟨k, by rw [e]; rfl, hlt, fun W hb => ?_⟩
 have := (hb.block k hlt).trans hk
 exact ⟨cell_blk this 0, cell_blk this 1, cell_blk this 2⟩
theorem LyR.over {w : World} {B q : Nat} {ks : List Nat} {m : List Ly} {H : Int} (h : LyR w B q ks m H) {j : Nat} (hj : m.length ≤ j) : hdY (ks.drop j) nilP = nilP := by
 rw [List.drop_of_length_le (by rw [h.lnk.len]; exact hj)]; rfl
def posY (ks : List Nat) (v : Value) : Nat := match v with
 | .pointer (some a) => (ks.dropWhile fun k => !decide (k = a.block)).length
 | _ => 0
theorem posY_drop : ∀ {ks : List Nat}, ks.Nodup → ∀ j, posY ks (hdY (ks.drop j) nilP) = ks.length - j
 | [], _, j => by simp [posY, hdY]
 | a :: t, hn, 0 => by simp [posY, hdY]
 | a :: t, hn, j + 1 => by
  obtain ⟨h1, h2⟩ := List.nodup_cons.1 hn
  have ih := posY_drop h2 j
  have e : posY (a :: t) (hdY ((a :: t).drop (j + 1)) nilP) = posY t (hdY (t.drop j) nilP) := by
   rw [List.drop_succ_cons]
   cases hd : t.drop j with
   | nil => rfl
   | cons k r =>
    have hk : k ∈ t := List.mem_of_mem_drop (i := j) (by rw [hd]; exact List.mem_cons_self ..)
    have hne : ¬ a = k := fun e => h1 (e ▸ hk)
    show ((a :: t).dropWhile fun i => !decide (i = k)).length = (t.dropWhile fun i => !decide (i = k)).length
    rw [List.dropWhile_cons, decide_eq_false hne]
    rfl
  rw [e, ih, List.length_cons]
  omega
def wordB (x : Ly) : ByteArray := ⟨(wordY x).toArray⟩
theorem textY_join : ∀ m : List Ly, joinL (m.map wordB) = textY m
 | [] => rfl
 | [x] => by simp [joinL, textY, wordB]
 | x :: y :: m => by
  have ih := textY_join (y :: m)
  show (wordB x).data.toList ++ 32 :: joinL ((y :: m).map wordB) = wordY x ++ 32 :: textY (y :: m)
  rw [ih]
  simp [wordB]
theorem wordB_size {m : List Ly} (h : LyOk m) {x : Ly} (hx : x ∈ m) : (wordB x).size ≤ 21 := by
 have := wordY_len h hx
 unfold wordB
 rw [← size_len, bytes_toList]; exact this
theorem wordB_eq (x : Ly) : ((⟨(decDigits x.1.toNat).toArray⟩ : ByteArray) ++ ⟨#[64]⟩) ++ ⟨(decDigits x.2.toNat).toArray⟩ = wordB x := by
 have e : (⟨#[64]⟩ : ByteArray) = ⟨([64] : List UInt8).toArray⟩ := rfl
 rw [e, str_append, str_append]
 unfold wordB wordY
 simp
theorem joins2 (a d : ByteArray) (ha : a.size ≤ 13) (hd : d.size ≤ 13) : ∃ t1 : ByteArray, (∀ w, (Op.stringOp .add a ⟨#[64]⟩).run Tryz.prog w = .ok (.string t1) w) ∧ (∀ w, (Op.stringOp .add t1 d).run Tryz.prog w = .ok (.string ((a ++ ⟨#[64]⟩) ++ d)) w) := by
 have e : (⟨#[64]⟩ : ByteArray).size = 1 := rfl
 refine ⟨_, fun w => run_string_add_sum w _ _ ?_, fun w => run_string_add_sum w _ _ ?_⟩
 all_goals
  simp only [ByteArray.size_append, e]
  omega
theorem own_below {w w' : World} {B : Nat} {T : TypeId} {v : Value} {n : Nat} {xs : List Value} (h : w.ownsRow B T 1 v n xs) (hb : Below w.heap.size w w') : w'.ownsRow B T 1 v n xs :=
 h.kept (row := none) ⟨hb.os, hb.tape, hb.output, hb.size, fun k hk _ => hb.block k hk⟩ (by cases e : v.ownBlock with | none => exact Or.inl rfl | some k => exact Or.inr (by simp))
theorem own_sliceW {w : World} {B n : Nat} {T : TypeId} {v : Value} {xs : List Value} (h : w.ownsRow B T 1 v n xs) : ∃ ao cap, v = .slice ao n cap := by
 rcases h.2 with ⟨hv, h0⟩ | ⟨g, cap, cur, hv, _⟩
 ·exact ⟨none, 0, by rw [hv, h0]⟩
 ·exact ⟨_, _, hv⟩
def strV (xs : List Ly) : List Value := xs.map fun x => .string (wordB x)
theorem strV_succ {m : List Ly} {j : Nat} {x : Ly} (h : m[j]? = some x) : strV (m.take (j + 1)) = strV (m.take j) ++ [.string (wordB x)] := by
 unfold strV
 rw [List.take_add_one, h, List.map_append]; rfl
theorem ytext_any (w : World) (B q : Nat) (ks : List Nat) (m : List Ly) (h : LyAt w B q ks m) (hp : Pow w) (hlen : m.length ≤ 1000) :
  Calls Tryz.prog 9 #[ptrK q] w fun e w' => e = .returned (.string ⟨(textY m).toArray⟩) ∧ Below w.heap.size w w' := by
 obtain ⟨i0, hi, hz0, hz1, hz2⟩ := info_parts Tryz.infoStr
 have HW : Hid (Calls Tryz.prog 26 _ w _) := ywhole_any q w
 have c0 : w.cell? ⟨q, 0, none⟩ = some (hdY ks nilP) := cell_blk h.r.top 0
 have HR : Hid (LyR w B q ks m (hasY m)) := h.r
 have HO : Hid (LyOk m) := h.ok
 have HN : Hid (ks.Nodup) := (List.nodup_cons.1 h.r.nd).2
 have HLe : Hid (ks.length = m.length) := h.r.lnk.len
 have HI : Hid (∀ (n : Int) W, 0 ≤ n → n ≤ 1099511627776 → Below w.heap.size w W → Calls Tryz.prog 27 #[.int .i64 n] W fun e w' => e = .returned (.string ⟨(decDigits n.toNat).toArray⟩) ∧ Below W.heap.size W w') := fun n W h0 h1 hb => itoa_any n h0 (by omega) W (hp.below hb)
 have HJ : Hid (∀ W v, Below w.heap.size w W → W.ownsRow w.heap.size 9 1 v m.length (strV m) → Calls Tryz.prog 28 #[v, .string ⟨#[32]⟩] W fun e w' => e = .returned (.string ⟨(textY m).toArray⟩) ∧ Below W.heap.size W w') := fun W v hb ho => by
  have ho2 := ho
  rcases ho.2 with ⟨rfl, h0⟩ | ⟨g, cap, cur, rfl, hg, hgb, hcap, _, _, _⟩
  ·have hm : m = [] := List.eq_nil_of_length_eq_zero h0
   subst hm
   refine (join_none none 0 W).mono ?_
   rintro e w' ⟨rfl, rfl⟩
   exact ⟨rfl, Below.refl _ _⟩
  ·have hcell : ∀ j x, (m.map wordB)[j]? = some x → W.cell? ⟨g, j, none⟩ = some (.string x) := fun j x hx => by
    have := ho2.cells (g := g) rfl j (.string x) (by
     rw [List.getElem?_map] at hx
     unfold strV
     rw [List.getElem?_map]
     cases hm : m[j]? with
     | none => rw [hm] at hx; simp at hx
     | some y => rw [hm] at hx; simp at hx; simp [hx])
    rw [Go.WideShapes.add_plain] at this
    simpa using this
   have hglt := (Array.getElem?_eq_some_iff.1 hgb).1
   rcases m with _ | ⟨x, _ | ⟨y, r⟩⟩
   ·refine (join_none _ cap W).mono ?_
    rintro e w' ⟨rfl, rfl⟩
    exact ⟨rfl, Below.refl _ _⟩
   ·refine (join_one g cap (wordB x) W (hcell 0 _ rfl)).mono ?_
    rintro e w' ⟨rfl, rfl⟩
    exact ⟨rfl, Below.refl _ _⟩
   ·have := join_many g cap ((x :: y :: r).map wordB) W hcell hglt (by simp) (by rw [List.length_map]; exact hlen) (by rw [List.length_map]; exact hcap) (fun z hz => by
     obtain ⟨t, ht, rfl⟩ := List.mem_map.1 hz
     have := wordB_size h.ok ht
     omega)
    rw [List.length_map, textY_join] at this
    exact this
 have HSz : Hid (∀ x ∈ m, (wordB x).size ≤ 21) := fun x hx => wordB_size h.ok hx
 clear h hp
 go_enter Tryz.func9, Tryz.ntmps9
 go_wp2_with (go_at_call 26; refine HW.out.mono ?_; rintro e w1 ⟨rfl, hw⟩; have hw' := hw.symm; subst hw')
 go_loopw [3, 4] (fun vs va wr => ∃ j : Nat, j ≤ m.length ∧ wr.ownsRow w.heap.size 9 1 vs j (strV (m.take j)) ∧ va = hdY (ks.drop j) nilP ∧ Below w.heap.size w wr) (fun _ va _ => posY ks va)
 case atStart => exact ⟨0, Nat.zero_le _, World.ownsRow_nil _ _ _ _, by rw [List.drop_zero], Below.refl _ _⟩
 case round =>
  rename_i vout vat
  obtain ⟨j, hj, hown, rfl, hwr⟩ := hrel
  by_cases hlt : j < m.length
  ·obtain ⟨x, hx⟩ : ∃ x, m[j]? = some x := ⟨_, List.getElem?_eq_getElem hlt⟩
   obtain ⟨k, e, hk, hc⟩ := HR.out.step hx
   have HM : Hid (posY ks (ptrK k) = m.length - j ∧ posY ks (hdY (ks.drop (j + 1)) nilP) = m.length - (j + 1)) := by
    rw [← e, ← HLe.out]
    exact ⟨posY_drop HN.out j, posY_drop HN.out (j + 1)⟩
   have hxm := List.mem_of_getElem? hx
   have HE : Hid (strV (m.take (j + 1)) = strV (m.take j) ++ [.string (wordB x)]) := strV_succ hx
   obtain ⟨x1, x2, x3⟩ := HO.out.pos x hxm
   have hxq : x.1 ≤ 1099511627776 := by
    have h1 := hasY_take HO.out.pos (j + 1)
    have h2 := hasY_take HO.out.pos j
    have h3 : hasY (m.take (j + 1)) = hasY (m.take j) + x.1 := by
     rw [List.take_add_one, hx, hasY_app]
     show _ + hasY [x] = _
     rw [hasY_cons, hasY_nil]; omega
    have := HO.out.most
    omega
   have hw1 : (⟨(decDigits x.1.toNat).toArray⟩ : ByteArray).size ≤ 13 := by rw [← size_len, bytes_toList]; exact dec_len 13 (by decide) (by omega)
   have hw2 : (⟨(decDigits x.2.toNat).toArray⟩ : ByteArray).size ≤ 13 := by rw [← size_len, bytes_toList]; exact dec_len 13 (by decide) (by omega)
   obtain ⟨t1, s1, s2⟩ := joins2 _ _ hw1 hw2
   rw [wordB_eq] at s2
   have hI1 := fun W hb => HI.out x.1 W (by omega) hxq hb
   have hI2 := fun W hb => HI.out x.2 W x2 (by omega) hb
   generalize (⟨(decDigits x.1.toNat).toArray⟩ : ByteArray) = td1 at *
   generalize (⟨(decDigits x.2.toNat).toArray⟩ : ByteArray) = td2 at *
   generalize wordB x = wd at *
   obtain ⟨vn, hvn⟩ : ∃ vn, hdY (ks.drop (j + 1)) nilP = vn := ⟨_, rfl⟩
   rw [hvn] at hc HM
   have HV : Hid (hdY (ks.drop (j + 1)) nilP = vn) := hvn
   have HC : Hid (∀ W, Below w.heap.size w W → W.cell? ⟨k, 0, none⟩ = some (.int .i64 x.1) ∧ W.cell? ⟨k, 1, none⟩ = some (.int .i64 x.2) ∧ W.cell? ⟨k, 2, none⟩ = some vn) := hc
   have hwd : Below w.heap.size w wr.drew := hwr.drew
   obtain ⟨c1, c2, c3⟩ := hc wr hwr
   obtain ⟨d1, d2, d3⟩ := hc wr.drew hwd
   obtain ⟨ao, co, rfl⟩ := own_sliceW hown
   have HOw : Hid (wr.ownsRow w.heap.size 9 1 (.slice ao j co) j (strV (m.take j))) := hown
   have hBx : Below wr.heap.size wr wr.drew := (Below.refl _ _).drew
   have HBx : Hid (Below wr.heap.size wr wr.drew) := hBx
   have HWd : Hid (Below w.heap.size w wr.drew) := hwd
   have hjm : j < 1000 := by omega
   rw [e]
   generalize hS : strV (m.take j) = S at *
   clear hx hc hwr e hvn hxm hown hw1 hw2 hS hBx hwd
   obtain ⟨xa, xb⟩ := x
   simp only at *
   go_wp2
   go_region_held3 (fun w' => w'.cell? ⟨k, 0, none⟩ = some (.int .i64 xa) ∧ w'.cell? ⟨k, 1, none⟩ = some (.int .i64 xb) ∧ w'.cell? ⟨k, 2, none⟩ = some vn) (go_keep)
    (first
     | (go_at_call_of 27 (Value.int .i64 xa); refine (hI1 _ HWd.out).mono ?_; rintro e w2 ⟨rfl, hb2⟩; have HB2 : Hid (Below w.heap.size w w2) := HWd.out.trans (hb2.mono HWd.out.size); have HX2 : Hid (Below wr.heap.size wr w2) := HBx.out.trans (hb2.mono HBx.out.size); obtain ⟨k0, k1, k2⟩ := HC.out w2 HB2.out; clear hb2)
     | (go_at_call_of 27 (Value.int .i64 xb); refine (hI2 _ HB2.out).mono ?_; rintro e w3 ⟨rfl, hb3⟩; have HB3 : Hid (Below w.heap.size w w3) := HB2.out.trans (hb3.mono HB2.out.size); have HX3 : Hid (Below wr.heap.size wr w3) := HX2.out.trans (hb3.mono HX2.out.size); obtain ⟨j0, j1, j2⟩ := HC.out w3 HB3.out; clear hb3)
     | (refine step_append_lies _ rfl _ _ 79 rfl w.heap.size 9 i0 (.string ⟨#[]⟩) 1 16 Tryz.underlying79 hi hz0 hz1 hz2 rfl (by decide) (.slice ao j co) j S rfl ((own_below HOw.out HX3.out).alloc _) ⟨w3.heap.size, 0, none⟩ 1 1 [.string wd] rfl rfl (World.news_of_block (heap_alloc_new w3 _)) (fun u hu => (by rw [List.mem_singleton.1 hu]; rfl)) (by decide) (by unfold maxLen; omega) (by omega) (by have := HB3.out.size; simp; omega) _ rfl ?_; intro g4 cap4 w4 own4 gr4 _ _; have HB4 : Hid (Below w.heap.size w w4) := ((HB3.out.alloc HB3.out.size _).grown gr4 (by have := HB3.out.size; simp; omega) (fun k hk => (HOw.out.lt k hk).1)); have HO4 : Hid (w4.ownsRow w.heap.size 9 1 (.slice (some ⟨g4, 0, none⟩) (j + 1) cap4) (j + 1) (S ++ [.string wd])) := own4; obtain ⟨i0', i1', i2'⟩ := HC.out w4 HB4.out; clear own4 gr4))
   go_wp2
   go_roundw
   case rel => exact ⟨j + 1, by omega, by rw [HE.out]; exact HO4.out, HV.out.symm, HB4.out⟩
   case measure => show posY ks vn < posY ks (ptrK k); rw [HM.out.1, HM.out.2]; omega
  ·have hE := HR.out.over (Nat.le_of_not_lt hlt)
   have hjm : j = m.length := by omega
   subst hjm
   rw [List.take_length] at hown
   rw [hE]
   have HJn : Hid (Calls Tryz.prog 28 _ wr _) := HJ.out wr _ hwr hown
   have HWr : Hid (Below w.heap.size w wr) := hwr
   clear hown hwr
   go_wp2_with (go_at_call 28; refine HJn.out.mono ?_; rintro e w2 ⟨rfl, hb2⟩)
   go_ret
   exact ⟨rfl, HWr.out.trans (hb2.mono HWr.out.size)⟩
theorem LyAt.base {w : World} {B q : Nat} {ks : List Nat} {m : List Ly} (h : LyAt w B q ks m) : B ≤ w.heap.size := by
 have h1 := h.r.lo q (by simp)
 have h2 := h.r.lt q (by simp)
 omega
structure Ly1 (w0 : World) (q : Nat) (W : World) (m : List Ly) : Prop where
 ex : ∃ ks, LyAt W w0.heap.size q ks m
 below : Below w0.heap.size w0 W
theorem Ly1.on {w0 W W' : World} {q : Nat} {m : List Ly} (h : Ly1 w0 q W m) (hb : Below W.heap.size W W') : Ly1 w0 q W' m := by
 obtain ⟨ks, hk⟩ := h.ex
 exact ⟨⟨ks, hk.below hb⟩, h.below.trans (hb.mono h.below.size)⟩
theorem Ly1.in_ {w0 W : World} {q : Nat} {m : List Ly} {s : Nat → Addr} (h : Ly1 w0 q W m) (hs : Cs W s) (n c : Int) :
  Calls Tryz.prog 12 #[ptrK q, .int .i64 n, .int .i64 c] W fun e w' => e = .returned (errP s (inE m n c)) ∧ Ly1 w0 q w' (inL m n c) := by
 obtain ⟨ks, hk⟩ := h.ex
 refine (yin_any W s w0.heap.size q ks m n c hk hs).mono ?_
 rintro e w' ⟨rfl, ks', h1, _, h3⟩
 exact ⟨rfl, ⟨ks', h1⟩, h.below.trans (h3.below hk.base hk.r.lo)⟩
theorem Ly1.out_ {w0 W : World} {q : Nat} {m : List Ly} {s : Nat → Addr} (h : Ly1 w0 q W m) (hs : Cs W s) (n : Int) :
  Calls Tryz.prog 13 #[ptrK q, .int .i64 n] W fun e w' => e = .returned (.tuple #[.int .i64 (outN m n), errP s (outE m n)]) ∧ Ly1 w0 q w' (outL m n) := by
 obtain ⟨ks, hk⟩ := h.ex
 refine (yout_any W s w0.heap.size q ks m n hk hs).mono ?_
 rintro e w' ⟨rfl, ks', h1, _, h3⟩
 exact ⟨rfl, ⟨ks', h1⟩, h.below.trans (h3.below hk.base hk.r.lo)⟩
theorem Ly1.text_ {w0 W : World} {q : Nat} {m : List Ly} (h : Ly1 w0 q W m) (hp : Pow W) (hl : m.length ≤ 1000) :
  Calls Tryz.prog 9 #[ptrK q] W fun e w' => e = .returned (.string ⟨(textY m).toArray⟩) ∧ Below W.heap.size W w' := by
 obtain ⟨ks, hk⟩ := h.ex
 exact ytext_any W _ q ks m hk hp hl
theorem Ly1.new_ (w : World) : Calls Tryz.prog 11 #[] w fun e w' => ∃ q, e = .returned (ptrK q) ∧ Ly1 w q w' [] :=
 (ynew_any w).mono fun _ _ ⟨h1, h2⟩ => ⟨w.heap.size, h1, h2 ▸ ⟨⟨[], LyAt.new w _ (Nat.le_refl _)⟩, (Below.refl _ w).alloc (Nat.le_refl _) _⟩⟩
structure Ly2 (w0 : World) (px py : Nat) (W : World) (mx my : List Ly) : Prop where
 ex : ∃ kx ky, LyAt W w0.heap.size px kx mx ∧ LyAt W w0.heap.size py ky my ∧ ∀ k ∈ px :: kx, k ∉ py :: ky
 below : Below w0.heap.size w0 W
theorem Ly2.symm {w0 W : World} {px py : Nat} {mx my : List Ly} (h : Ly2 w0 px py W mx my) : Ly2 w0 py px W my mx := by
 obtain ⟨kx, ky, h1, h2, h3⟩ := h.ex
 exact ⟨⟨ky, kx, h2, h1, fun k hk hx => h3 k hx hk⟩, h.below⟩
theorem Ly2.x {w0 W : World} {px py : Nat} {mx my : List Ly} (h : Ly2 w0 px py W mx my) : Ly1 w0 px W mx := by
 obtain ⟨kx, ky, h1, h2, h3⟩ := h.ex
 exact ⟨⟨kx, h1⟩, h.below⟩
theorem Ly2.on {w0 W W' : World} {px py : Nat} {mx my : List Ly} (h : Ly2 w0 px py W mx my) (hb : Below W.heap.size W W') : Ly2 w0 px py W' mx my := by
 obtain ⟨kx, ky, h1, h2, h3⟩ := h.ex
 exact ⟨⟨kx, ky, h1.below hb, h2.below hb, h3⟩, h.below.trans (hb.mono h.below.size)⟩
theorem Ly1.two {w0 W : World} {px : Nat} {mx : List Ly} (h : Ly1 w0 px W mx) : Calls Tryz.prog 11 #[] W fun e w' => ∃ py, e = .returned (ptrK py) ∧ Ly2 w0 px py w' mx [] := by
 obtain ⟨kx, h1⟩ := h.ex
 refine (ynew_any W).mono ?_
 rintro e w' ⟨rfl, rfl⟩
 have hb : Below W.heap.size W (W.alloc (.cells #[nilP, nilP, .int .i64 0] 82)) := (Below.refl _ W).alloc (Nat.le_refl _) _
 refine ⟨_, rfl, ⟨kx, [], h1.below hb, LyAt.new W _ h.below.size, fun k hk hy => ?_⟩, h.below.trans (hb.mono h.below.size)⟩
 have := h1.r.lt k hk
 simp at hy
 omega
theorem cheap_plain : inE [] 3 5 = 0 ∧ inL [] 3 5 = [(3, 5)] ∧ inE [(3, 5)] 2 7 = 0 ∧ inL [(3, 5)] 2 7 = [(3, 5), (2, 7)] ∧ outE [(3, 5), (2, 7)] 4 = 0 ∧ outN [(3, 5), (2, 7)] 4 = 22 ∧ outL [(3, 5), (2, 7)] 4 = [(1, 7)] := by decide
theorem cheap_text : (⟨(textY [(1, 7)]).toArray⟩ : ByteArray) = ⟨#[49, 64, 55]⟩ := by
 have e : textY [(1, 7)] = [49, 64, 55] := by
  show decDigits 1 ++ 64 :: decDigits 7 = _
  rw [decDigits_one (by decide), decDigits_one (by decide)]
  rfl
 rw [e]
theorem cheap_any (w : World) (s : Nat → Addr) (hs : Cs w s) (hp : Pow w) : Calls Tryz.prog 4 #[] w fun e w' => e = .returned (.bool true) ∧ Below w.heap.size w w' := by
 have HN : Hid (Calls Tryz.prog 11 #[] w _) := Ly1.new_ w
 obtain ⟨p1, p2, p3, p4, p5, p6, p7⟩ := cheap_plain
 have H1 : Hid (∀ q W, Ly1 w q W [] → Calls Tryz.prog 12 #[ptrK q, .int .i64 3, .int .i64 5] W fun e w' => e = .returned .nilIface ∧ Ly1 w q w' [(3, 5)]) := fun q W h => by
  have := h.in_ (hs.below h.below) 3 5
  rw [p1, p2] at this
  exact this
 have H2 : Hid (∀ q W, Ly1 w q W [(3, 5)] → Calls Tryz.prog 12 #[ptrK q, .int .i64 2, .int .i64 7] W fun e w' => e = .returned .nilIface ∧ Ly1 w q w' [(3, 5), (2, 7)]) := fun q W h => by
  have := h.in_ (hs.below h.below) 2 7
  rw [p3, p4] at this
  exact this
 have H3 : Hid (∀ q W, Ly1 w q W [(3, 5), (2, 7)] → Calls Tryz.prog 13 #[ptrK q, .int .i64 4] W fun e w' => e = .returned (.tuple #[.int .i64 22, .nilIface]) ∧ Ly1 w q w' [(1, 7)]) := fun q W h => by
  have := h.out_ (hs.below h.below) 4
  rw [p5, p6, p7] at this
  exact this
 have H4 : Hid (∀ q W, Ly1 w q W [(1, 7)] → Calls Tryz.prog 9 #[ptrK q] W fun e w' => e = .returned (.string ⟨#[49, 64, 55]⟩) ∧ Below W.heap.size W w') := fun q W h => by
  have := h.text_ (hp.below h.below) (by decide)
  rw [cheap_text] at this
  exact this
 clear hs hp p1 p2 p3 p4 p5 p6 p7
 go_enter Tryz.func4, Tryz.ntmps4
 go_wp2_with (first
  | (go_at_call 11; refine HN.out.mono ?_; rintro e w1 ⟨q, rfl, h1⟩; have HL1 : Hid (Ly1 w q w1 []) := h1; clear h1)
  | (go_at_call 12; refine (H1.out _ _ HL1.out).mono ?_; clear H1; rintro e w2 ⟨rfl, h2⟩; have HL2 : Hid (Ly1 w q w2 [(3, 5)]) := h2; clear h2)
  | (go_at_call 12; refine (H2.out _ _ HL2.out).mono ?_; clear H2; rintro e w3 ⟨rfl, h3⟩; have HL3 : Hid (Ly1 w q w3 [(3, 5), (2, 7)]) := h3; clear h3)
  | (go_at_call 13; refine (H3.out _ _ HL3.out).mono ?_; rintro e w4 ⟨rfl, h4⟩; have HL4 : Hid (Ly1 w q w4 [(1, 7)]) := h4; clear h4)
  | (go_at_call 9; refine (H4.out _ _ HL4.out).mono ?_; rintro e w5 ⟨rfl, h5⟩))
 go_ret
 exact ⟨rfl, HL4.out.below.trans (h5.mono HL4.out.below.size)⟩
theorem wrap64_is (n : Int) : wrap64 n = IntKind.i64.wrap n := by rw [IntKind.wrap_i64, wrap64]
def encY (x : Ly) : List Value := [.int .i64 x.1, .int .i64 x.2]
def flatY (m : List Ly) : List Value := m.flatMap encY
theorem flatY_app (a b : List Ly) : flatY (a ++ b) = flatY a ++ flatY b := by unfold flatY; rw [List.flatMap_append]
theorem flatY_one (x : Ly) : flatY [x] = encY x := by unfold flatY; simp
theorem flatY_len (m : List Ly) : (flatY m).length = m.length * 2 := by
 unfold flatY
 induction m with
 | nil => rfl
 | cons x m ih => rw [List.flatMap_cons, List.length_append, ih, List.length_cons]; simp [encY]; omega
theorem flatY_get : ∀ {m : List Ly} {i : Nat} {x : Ly} (c : Nat), m[i]? = some x → c < 2 → (flatY m)[i * 2 + c]? = (encY x)[c]?
 | [], i, x, c, h, hc => by simp at h
 | y :: m, 0, x, c, h, hc => by
  obtain rfl : y = x := by simpa using h
  unfold flatY
  rw [List.flatMap_cons, List.getElem?_append_left (by show _ < 2; omega)]
  simp
 | y :: m, i + 1, x, c, h, hc => by
  have h' : m[i]? = some x := by simpa using h
  have ih := flatY_get (m := m) c h' hc
  unfold flatY at *
  rw [List.flatMap_cons, List.getElem?_append_right (by show 2 ≤ _; omega), ← ih]
  congr 1
  show (i + 1) * 2 + c - 2 = _
  omega
def RowY (w : World) (B : Nat) (v : Value) (m : List Ly) : Prop := w.ownsRow B 88 2 v m.length (flatY m)
theorem RowY.forms {w : World} {B : Nat} {v : Value} {m : List Ly} (h : RowY w B v m) :
  (v = .slice none 0 0 ∧ m = []) ∨ ∃ g cap, v = .slice (some ⟨g, 0, none⟩) m.length cap ∧ B ≤ g ∧ g < w.heap.size ∧ (∃ c, w.heap[g]? = some (.cells c 88 (0, 0))) ∧ ∀ i x, m[i]? = some x → w.cell? ⟨g, i * 2, none⟩ = some (.int .i64 x.1) ∧ w.cell? ⟨g, i * 2 + 1, none⟩ = some (.int .i64 x.2) := by
 have h0 := h
 rcases h.2 with ⟨h1, h2⟩ | ⟨g, cap, cur, rfl, hb, hg, hle, -, -, -⟩
 ·exact Or.inl ⟨h1, List.eq_nil_of_length_eq_zero h2⟩
 ·refine Or.inr ⟨g, cap, rfl, hb, (Array.getElem?_eq_some_iff.1 hg).1, ⟨_, hg⟩, fun i x hx => ?_⟩
  have hi := (List.getElem?_eq_some_iff.1 hx).1
  have key : ∀ c, c < 2 → w.cell? ⟨g, i * 2 + c, none⟩ = (encY x)[c]? := fun c hc => by
   rw [World.ownsRow.cellAt h0 (i * 2 + c) (by omega)]
   exact flatY_get c hx hc
  exact ⟨key 0 (by decide), key 1 (by decide)⟩
theorem RowY.kept {w w' : World} {B : Nat} {v : Value} {m : List Ly} (h : RowY w B v m) (hb : ∀ g, v.ownBlock = some g → w'.heap[g]? = w.heap[g]?) : RowY w' B v m := by
 refine ⟨h.1, ?_⟩
 rcases h.2 with h1 | ⟨g, cap, cur, rfl, h2, hg, h3⟩
 ·exact Or.inl h1
 ·exact Or.inr ⟨g, cap, cur, rfl, h2, (hb g rfl).trans hg, h3⟩
theorem RowY.lt {w : World} {B : Nat} {v : Value} {m : List Ly} (h : RowY w B v m) {g : Nat} (hg : v.ownBlock = some g) : B ≤ g ∧ g < w.heap.size := World.ownsRow.lt h g hg
theorem RowY.below {w w' : World} {B : Nat} {v : Value} {m : List Ly} (h : RowY w B v m) (hb : Below w.heap.size w w') : RowY w' B v m := h.kept fun g hg => hb.block g (h.lt hg).2
theorem RowY.kind {w : World} {B : Nat} {v : Value} {m : List Ly} (h : RowY w B v m) {g : Nat} (hg : v.ownBlock = some g) : ∃ c, w.heap[g]? = some (.cells c 88 (0, 0)) := by
 rcases h.2 with ⟨rfl, _⟩ | ⟨g', cap, cur, rfl, h2, hg', h3⟩
 ·cases hg
 ·cases hg
  exact ⟨_, hg'⟩
theorem RowY.setLast {w : World} {B g n cap : Nat} {m : List Ly} {x : Ly} (h : RowY w B (.slice (some ⟨g, 0, none⟩) n cap) (m ++ [x])) (z : Int) : RowY (w.setCell ⟨g, m.length * 2, none⟩ (.int .i64 z)) B (.slice (some ⟨g, 0, none⟩) n cap) (m ++ [(z, x.2)]) := by
 rcases h.2 with ⟨h1, _⟩ | ⟨g', cap', cur, hv, hB, hg, h3, h4, h5, h6⟩
 ·cases h1
 ·injection hv with a1 a2 a3
  injection a1 with a1
  injection a1 with a1
  subst a1 a2 a3
  refine ⟨by rw [flatY_len], Or.inr ⟨g, cap, cur.setIfInBounds (m.length * 2) (.int .i64 z), ?_, hB, Joins.block_setCell hg _, ?_, h4, ?_, ?_⟩⟩
  ·simp
  ·simpa using h3
  ·rw [Array.size_setIfInBounds]; exact h5
  ·have e : (m ++ [(z, x.2)]).length = (m ++ [x]).length := by simp
   rw [e, Array.toList_setIfInBounds, List.take_set, h6, flatY_app, flatY_app, flatY_one, flatY_one, List.set_append_right _ _ (by rw [flatY_len]; exact Nat.le_refl _), flatY_len, Nat.sub_self]
   rfl
structure RefY (w : World) (B q : Nat) (m : List Ly) : Prop where
 ex : ∃ v, w.heap[q]? = some (.cells #[v] 69 (0, 0)) ∧ RowY w B v m
 lo : B ≤ q
theorem RefY.below {w w' : World} {B q : Nat} {m : List Ly} (h : RefY w B q m) (hb : Below w.heap.size w w') : RefY w' B q m := by
 obtain ⟨v, h1, h2⟩ := h.ex
 exact ⟨⟨v, (hb.block q (Array.getElem?_eq_some_iff.1 h1).1).trans h1, h2.below hb⟩, h.lo⟩
theorem RefY.lt {w : World} {B q : Nat} {m : List Ly} (h : RefY w B q m) : q < w.heap.size := by
 obtain ⟨v, h1, h2⟩ := h.ex
 exact (Array.getElem?_eq_some_iff.1 h1).1
theorem RefY.base {w : World} {B q : Nat} {m : List Ly} (h : RefY w B q m) : B ≤ w.heap.size := by have := h.lt; have := h.lo; omega
theorem RefY.later {w : World} {B q : Nat} {m : List Ly} (h : RefY w B q m) : ∃ a c, w.heap[q]? = some (.cells #[.slice a m.length c] 69 (0, 0)) ∧ RowY w B (.slice a m.length c) m ∧ ∀ W, Below w.heap.size w W → W.cell? ⟨q, 0, none⟩ = some (.slice a m.length c) ∧
  ∀ i x, m[i]? = some x → ∃ g, a = some ⟨g, 0, none⟩ ∧ W.cell? ⟨g, i * 2, none⟩ = some (.int .i64 x.1) ∧ W.cell? ⟨g, i * 2 + 1, none⟩ = some (.int .i64 x.2) := by
 obtain ⟨v, h1, h2⟩ := h.ex
 rcases h2.forms with ⟨rfl, rfl⟩ | ⟨g, cap, rfl, hb, hlt, _, hc⟩
 ·refine ⟨none, 0, h1, h2, fun W hb => ⟨cell_blk ((hb.block q h.lt).trans h1) 0, fun i x hx => by simp at hx⟩⟩
 ·refine ⟨some ⟨g, 0, none⟩, cap, h1, h2, fun W hb => ⟨cell_blk ((hb.block q h.lt).trans h1) 0, fun i x hx => ⟨g, rfl, ?_, ?_⟩⟩⟩
  ·exact (hb.cell (p := ⟨g, i * 2, none⟩) hlt).trans (hc i x hx).1
  ·exact (hb.cell (p := ⟨g, i * 2 + 1, none⟩) hlt).trans (hc i x hx).2
theorem hasY_succ {m : List Ly} {j : Nat} {x : Ly} (h : m[j]? = some x) : hasY (m.take (j + 1)) = hasY (m.take j) + x.1 := by
 rw [List.take_add_one, h, hasY_app]
 show _ + hasY [x] = _
 rw [hasY_cons, hasY_nil]; omega
theorem rhas_any (w : World) (B q : Nat) (m : List Ly) (h : RefY w B q m) (hok : LyOk m) (hlen : m.length ≤ 1000) :
  Calls Tryz.prog 42 #[ptrK q] w fun e w' => e = .returned (.int .i64 (hasY m)) ∧ Below w.heap.size w w' := by
 obtain ⟨a, c, _, _, hl⟩ := h.later
 have HL : Hid (∀ W, Below w.heap.size w W → _) := hl
 have HK : Hid (LyOk m) := hok
 obtain ⟨ln, hln⟩ : ∃ ln, ln = m.length := ⟨_, rfl⟩
 have HLn : Hid (ln = m.length) := hln
 rw [← hln] at hlen HL
 clear h hok hl hln
 go_enter Tryz.func42, Tryz.ntmps42
 go_wp2
 go_loopw [3, 4] (fun vs vi wr => ∃ j : Nat, j ≤ ln ∧ vi = .int .i64 j ∧ vs = .int .i64 (hasY (m.take j)) ∧ Below w.heap.size w wr) (fun _ vi _ => ln - (RowKit.intOf vi).toNat)
 case atStart => exact ⟨0, Nat.zero_le _, rfl, rfl, Below.refl _ _⟩
 case round =>
  obtain ⟨j, hj, rfl, rfl, hwr⟩ := hrel
  obtain ⟨c0, hc⟩ := HL.out wr hwr
  by_cases hlt : j < ln
  ·obtain ⟨x, hx⟩ : ∃ x, m[j]? = some x := ⟨_, List.getElem?_eq_getElem (by rw [← HLn.out]; exact hlt)⟩
   obtain ⟨g, rfl, c1, c2⟩ := hc j x hx
   have HE : Hid (hasY (m.take (j + 1)) = hasY (m.take j) + x.1) := hasY_succ hx
   have b1 := hasY_take HK.out.pos j
   have b2 := hasY_take HK.out.pos (j + 1)
   have b3 := HK.out.most
   have b4 := (HK.out.pos x (List.mem_of_getElem? hx)).1
   rw [HE.out] at b2
   clear hx hc
   generalize hasY (m.take j) = S at *
   go_wp2
   go_roundw
   case rel => exact ⟨j + 1, by omega, by go_num, by rw [HE.out], hwr⟩
   case measure => simp [RowKit.intOf]; omega
  ·have e : m.take j = m := List.take_of_length_le (by rw [← HLn.out]; omega)
   rw [e]
   clear hc
   go_wp2
   go_ret
   exact ⟨rfl, hwr⟩
theorem rworth_any (w : World) (B q : Nat) (m : List Ly) (h : RefY w B q m) (hok : LyOk m) (hlen : m.length ≤ 1000) :
  Calls Tryz.prog 43 #[ptrK q] w fun e w' => e = .returned (.int .i64 (worthY m)) ∧ Below w.heap.size w w' := by
 obtain ⟨a, c, _, _, hl⟩ := h.later
 have HL : Hid (∀ W, Below w.heap.size w W → _) := hl
 have HK : Hid (LyOk m) := hok
 obtain ⟨ln, hln⟩ : ∃ ln, ln = m.length := ⟨_, rfl⟩
 have HLn : Hid (ln = m.length) := hln
 rw [← hln] at hlen HL
 clear h hok hl hln
 go_enter Tryz.func43, Tryz.ntmps43
 go_wp2
 go_loopw [3, 4] (fun vs vi wr => ∃ j : Nat, j ≤ ln ∧ vi = .int .i64 j ∧ vs = .int .i64 (worthY (m.take j)) ∧ Below w.heap.size w wr) (fun _ vi _ => ln - (RowKit.intOf vi).toNat)
 case atStart => exact ⟨0, Nat.zero_le _, rfl, rfl, Below.refl _ _⟩
 case round =>
  obtain ⟨j, hj, rfl, rfl, hwr⟩ := hrel
  obtain ⟨c0, hc⟩ := HL.out wr hwr
  by_cases hlt : j < ln
  ·obtain ⟨x, hx⟩ : ∃ x, m[j]? = some x := ⟨_, List.getElem?_eq_getElem (by rw [← HLn.out]; exact hlt)⟩
   obtain ⟨g, rfl, c1, c2⟩ := hc j x hx
   have hd := fun d => HL.out (wr.drewN d) (below_drewN hwr d)
   have d0 := fun d => (hd d).1
   have d1 : ∀ d, (wr.drewN d).cell? ⟨g, j * 2, none⟩ = some (.int .i64 x.1) := fun d => by
    obtain ⟨g', e, h1, _⟩ := (hd d).2 j x hx
    cases e
    exact h1
   have d2 : ∀ d, (wr.drewN d).cell? ⟨g, j * 2 + 1, none⟩ = some (.int .i64 x.2) := fun d => by
    obtain ⟨g', e, _, h1⟩ := (hd d).2 j x hx
    cases e
    exact h1
   have HE : Hid (worthY (m.take (j + 1)) = worthY (m.take j) + x.1 * x.2) := worthY_succ hx
   obtain ⟨w1, w2⟩ := worthY_take HK.out j
   obtain ⟨w3, w4⟩ := worthY_take HK.out (j + 1)
   rw [HE.out] at w3 w4
   obtain ⟨x1, x2, x3⟩ := HK.out.pos x (List.mem_of_getElem? hx)
   have hb := (cost_bound (n := x.1) (by omega) x2 x3).1
   have hb2 : x.1 * x.2 ≤ 1152921504606846976 := by omega
   have HB : Hid (∀ d, Below w.heap.size w (wr.drewN d)) := fun d => below_drewN hwr d
   clear hx hc hd hwr
   obtain ⟨xa, xb⟩ := x
   simp only at *
   generalize worthY (m.take j) = S at *
   go_wp2
   go_quiet (fail)
   have HBE : Hid (Below w.heap.size w (wr.drewN nq)) := HB.out nq
   clear d0 d1 d2 c0 c1 c2 HB
   generalize wr.drewN nq = WE at *
   go_wp2
   go_roundw
   case rel => exact ⟨j + 1, by omega, by go_num, by rw [HE.out], HBE.out⟩
   case measure => simp [RowKit.intOf]; omega
  ·have e : m.take j = m := List.take_of_length_le (by rw [← HLn.out]; omega)
   rw [e]
   clear hc
   go_wp2
   go_ret
   exact ⟨rfl, hwr⟩
theorem Tryz.infoLy : (Tryz.prog.info? 88).map (fun i => (i.zero, i.size, i.bytes)) = some (some (.agg #[.int .i64 0, .int .i64 0]), 2, 16) := by kernel_rfl
theorem encY_one (x : Ly) : ∀ u ∈ encY x, u.oneCell' = true := by
 intro u hu
 unfold encY at hu
 rcases List.mem_cons.1 hu with rfl | hu
 ·rfl
 ·rw [List.mem_singleton.1 hu]; rfl
theorem blk_neY {w : World} {x y : Nat} {c c' : Array Value} {T T' : TypeId} {f f' : Nat × Nat} (h : w.heap[x]? = some (.cells c T f)) (h' : w.heap[y]? = some (.cells c' T' f')) (hT : T ≠ T') : x ≠ y := fun e => by
 subst e
 rw [h] at h'
 cases h'
 exact hT rfl
def RefK (w : World) (k : Nat) : Prop := (∃ c, w.heap[k]? = some (.cells c 69 (0, 0))) ∨ ∃ c, w.heap[k]? = some (.cells c 88 (0, 0))
structure OffR (w w' : World) : Prop where
 size : w.heap.size ≤ w'.heap.size
 block : ∀ k, k < w.heap.size → ¬ RefK w k → w'.heap[k]? = w.heap[k]?
theorem OffR.of_below {w w' : World} (h : Below w.heap.size w w') : OffR w w' := ⟨h.size, fun k hk _ => h.block k hk⟩
theorem OffR.trans {w w' w'' : World} (h : OffR w w') (g : OffR w' w'') : OffR w w'' := ⟨Nat.le_trans h.size g.size, fun k hk hn => by
 have e := h.block k hk hn
 refine (g.block k (Nat.lt_of_lt_of_le hk h.size) fun h9 => hn ?_).trans e
 unfold RefK at *
 rw [e] at h9
 exact h9⟩
theorem OffR.set {w : World} {p o : Nat} (h : RefK w p) (v : Value) : OffR w (w.setCell ⟨p, o, none⟩ v) := ⟨by rw [World.size_setCell]; exact Nat.le_refl _, fun k _ hn => Below.heap_setCell w ⟨p, o, none⟩ v k fun e => hn (e ▸ h)⟩
structure RF (B : Nat) (w w' : World) : Prop where
 below : Below B w w'
 off : OffR w w'
theorem RF.of_below {B : Nat} {w w' : World} (hB : B ≤ w.heap.size) (h : Below w.heap.size w w') : RF B w w' := ⟨h.mono hB, OffR.of_below h⟩
def RInL (w : World) (B q : Nat) (m : List Ly) (n c : Int) (w' : World) : Prop := RefY w' B q (inL m n c) ∧ RF B w w'
theorem rinL_err {w w' : World} {B q : Nat} {m : List Ly} {n c : Int} (h : RefY w B q m) (hE : inE m n c ≠ 0) (hb : Below w.heap.size w w') : RInL w B q m n c w' := by
 unfold RInL inL
 rw [if_neg hE]
 exact ⟨h.below hb, RF.of_below h.base hb⟩
theorem rin_bound (w : World) (q : Nat) (n c : Int) (hx : ¬ (1 ≤ n ∧ n ≤ 1099511627776 ∧ 0 ≤ c ∧ c ≤ 1048576)) :
  Calls Tryz.prog 20 #[ptrK q, .int .i64 n, .int .i64 c] w fun e w' => e = .returned (.int .i64 2) ∧ Below w.heap.size w w' := by
 by_cases h1 : n < 1
 ·clear hx
  go_enter Tryz.func20, Tryz.ntmps20
  go_wp2
  go_ret
  exact ⟨rfl, Below.refl _ _⟩
 ·by_cases h2 : 1099511627776 < n
  ·clear hx
   go_enter Tryz.func20, Tryz.ntmps20
   go_wp2
   go_ret
   exact ⟨rfl, Below.refl _ _⟩
  ·by_cases h3 : c < 0
   ·clear hx
    go_enter Tryz.func20, Tryz.ntmps20
    go_wp2
    go_ret
    exact ⟨rfl, Below.refl _ _⟩
   ·have h4 : 1048576 < c := by omega
    clear hx
    go_enter Tryz.func20, Tryz.ntmps20
    go_wp2
    go_ret
    exact ⟨rfl, Below.refl _ _⟩
theorem rin_many (w : World) (B q : Nat) (m : List Ly) (n c : Int) (h : RefY w B q m) (hok : LyOk m) (hlen : m.length ≤ 900) (h1 : 1 ≤ n) (h2 : n ≤ 1099511627776) (h3 : 0 ≤ c) (h4 : c ≤ 1048576) (hx : 1099511627776 < hasY m + n) :
  Calls Tryz.prog 20 #[ptrK q, .int .i64 n, .int .i64 c] w fun e w' => e = .returned (.int .i64 2) ∧ Below w.heap.size w w' := by
 have HH : Hid (Calls Tryz.prog 42 _ w _) := rhas_any w B q m h hok (by omega)
 have hm := hok.most
 have hm0 := hasY_nonneg hok.pos
 generalize hasY m = H at *
 clear h hok hlen
 go_enter Tryz.func20, Tryz.ntmps20
 go_wp2_with (go_at_call 42; refine HH.out.mono ?_; rintro e w1 ⟨rfl, hb1⟩)
 go_ret
 exact ⟨rfl, hb1⟩
theorem row_append {w W w4 w5 : World} {B q : Nat} {v0 v4 : Value} {m : List Ly} {x : Ly} (hb : Below w.heap.size w W) (h : RefY w B q m) (hr : RowY W B v0 m) (hg : (W.alloc (.cells (encY x).toArray 88)).grownBy w4 v0.ownBlock) (ho : w4.ownsRow B 88 2 v4 (m.length + 1) (flatY m ++ encY x)) (h5 : w4.setCell ⟨q, 0, none⟩ v4 = w5) (hc : ∃ u, W.heap[q]? = some (.cells #[u] 69 (0, 0))) :
  (∃ u, w4.cell? ⟨q, 0, none⟩ = some u) ∧ w4.frozen? ⟨q, 0, none⟩ = false ∧ RefY w5 B q (m ++ [x]) ∧ RF B w w5 := by
 obtain ⟨u, hu⟩ := hc
 have hBw := h.base
 have hqw := h.lt
 have hqW := Nat.lt_of_lt_of_le hqw hb.size
 have hqA : (W.alloc (.cells (encY x).toArray 88)).heap[q]? = _ := (heap_alloc_old W _ hqW).trans hu
 have hqn : v0.ownBlock ≠ some q := fun e => by
  obtain ⟨c, hk⟩ := hr.kind e
  exact blk_neY hk hu (by decide) rfl
 have hq4 := (hg.block q (by simp; omega) (fun e => hqn e.symm)).trans hqA
 have hB4 : Below B w w4 := ((hb.mono hBw).alloc (Nat.le_trans hBw hb.size) _).grown hg (by simp; have := hb.size; omega) (fun k hk => (hr.lt hk).1)
 have h4 : RowY w4 B v4 (m ++ [x]) := by
  unfold RowY
  rw [List.length_append, flatY_app, flatY_one]
  exact ho
 have h5b := Joins.block_setCell (i := 0) hq4 v4
 rw [h5] at h5b
 refine ⟨⟨u, cell_blk hq4 0⟩, frozen_of_heap hq4 0, ⟨⟨v4, by simpa using h5b, h4.kept fun g hg' => ?_⟩, h.lo⟩, ?_⟩
 ·rw [← h5]
  refine Below.heap_setCell w4 ⟨q, 0, none⟩ v4 g fun e => ?_
  obtain ⟨c, hk⟩ := h4.kind hg'
  exact blk_neY hk hq4 (by decide) e
 ·rw [← h5]
  have o1 : OffR w W := OffR.of_below hb
  have o2 : OffR W w4 := ⟨by have := hg.size; simp at this; omega, fun k hk hn => (hg.block k (by simp; omega) fun e => hn (Or.inr (hr.kind e.symm))).trans (heap_alloc_old W _ hk)⟩
  exact ⟨hB4.setCell h.lo _, (o1.trans o2).trans (OffR.set (Or.inl ⟨_, hq4⟩) _)⟩
theorem rin_first (w : World) (B q : Nat) (n c : Int) (h : RefY w B q []) (h1 : 1 ≤ n) (h2 : n ≤ 1099511627776) (h3 : 0 ≤ c) (h4 : c ≤ 1048576) :
  Calls Tryz.prog 20 #[ptrK q, .int .i64 n, .int .i64 c] w fun e w' => e = .returned (.int .i64 0) ∧ RefY w' B q [(n, c)] ∧ RF B w w' := by
 obtain ⟨i0, hi, hz0, hz1, hz2⟩ := info_parts Tryz.infoLy
 have HH : Hid (Calls Tryz.prog 42 _ w _) := rhas_any w B q [] h LyOk.nil (by decide)
 obtain ⟨a, cp, hq, hr, hlt⟩ := h.later
 have HF : Hid (∀ W, Below w.heap.size w W → W.cell? ⟨q, 0, none⟩ = some (.slice a 0 cp) ∧ RowY W B (.slice a 0 cp) [] ∧ (∃ u, W.heap[q]? = some (.cells #[u] 69 (0, 0)))) := fun W hb => ⟨(hlt W hb).1, hr.below hb, _, (hb.block q h.lt).trans hq⟩
 have HB : Hid (RefY w B q []) := h
 have hBw := h.base
 rw [hasY_nil] at HH
 clear h hq hr hlt
 go_enter Tryz.func20, Tryz.ntmps20
 go_wp2_with (first
  | (go_at_call 42; refine HH.out.mono ?_; rintro e w1 ⟨rfl, hb1⟩; obtain ⟨c0, hr1, hu1⟩ := HF.out w1 hb1; have HB1 : Hid (Below w.heap.size w w1) := hb1; have HR1 : Hid (RowY w1 B (.slice a 0 cp) []) := hr1; have HU1 : Hid (∃ u, w1.heap[q]? = some (.cells #[u] 69 (0, 0))) := hu1; clear hb1 hr1 hu1)
  | (at_builtin; refine wpList_append_lies _ rfl _ _ 67 rfl B 88 i0 (.agg #[.int .i64 0, .int .i64 0]) 2 16 Tryz.underlying67 hi hz0 hz1 hz2 rfl (by decide) (.slice a 0 cp) 0 [] rfl (HR1.out.below ((Below.refl _ w1).alloc (Nat.le_refl _) _)) ⟨w1.heap.size, 0, none⟩ 1 1 (encY (n, c)) rfl rfl (World.news_of_block (heap_alloc_new w1 _)) (encY_one _) (by decide) (by unfold maxLen; omega) (by omega) (by have := HB1.out.size; simp; omega) _ rfl ?_; intro g4 cap4 w4 own4 gr4 _ _; obtain ⟨w5, e5⟩ : ∃ w5, w4.setCell ⟨q, 0, none⟩ (.slice (some ⟨g4, 0, none⟩) (0 + 1) cap4) = w5 := ⟨_, rfl⟩; obtain ⟨⟨u4, x4⟩, f4, hfin, hbel⟩ := row_append (x := (n, c)) HB1.out HB.out HR1.out gr4 (own4) e5 HU1.out; have HFin : Hid (RefY w5 B q ([] ++ [(n, c)]) ∧ RF B w w5) := ⟨hfin, hbel⟩; clear own4 gr4 hfin hbel))
 go_ret
 exact ⟨rfl, HFin.out⟩
theorem rin_next (w : World) (B q : Nat) (m : List Ly) (x : Ly) (n c : Int) (h : RefY w B q (m ++ [x])) (hok : LyOk (m ++ [x])) (hlen : m.length ≤ 800) (hx : x.2 ≠ c) (h1 : 1 ≤ n) (h2 : n ≤ 1099511627776) (h3 : 0 ≤ c) (h4 : c ≤ 1048576) (h5 : hasY (m ++ [x]) + n ≤ 1099511627776) :
  Calls Tryz.prog 20 #[ptrK q, .int .i64 n, .int .i64 c] w fun e w' => e = .returned (.int .i64 0) ∧ RefY w' B q (m ++ [x] ++ [(n, c)]) ∧ RF B w w' := by
 obtain ⟨i0, hi, hz0, hz1, hz2⟩ := info_parts Tryz.infoLy
 have HH : Hid (Calls Tryz.prog 42 _ w _) := rhas_any w B q (m ++ [x]) h hok (by simp; omega)
 obtain ⟨a, cp, hq, hr, hlt⟩ := h.later
 have hm0 := hasY_nonneg hok.pos
 obtain ⟨g, rfl, _, _⟩ := (hlt w (Below.refl _ _)).2 m.length x (by simp)
 have HF : Hid (∀ W, Below w.heap.size w W → W.cell? ⟨q, 0, none⟩ = some (.slice (some ⟨g, 0, none⟩) (m ++ [x]).length cp) ∧ W.cell? ⟨g, m.length * 2 + 1, none⟩ = some (.int .i64 x.2) ∧ RowY W B (.slice (some ⟨g, 0, none⟩) (m ++ [x]).length cp) (m ++ [x]) ∧ (∃ u, W.heap[q]? = some (.cells #[u] 69 (0, 0)))) := fun W hb => by
  obtain ⟨c0, hc⟩ := hlt W hb
  obtain ⟨g', e, _, h9⟩ := hc m.length x (by simp)
  cases e
  exact ⟨c0, h9, hr.below hb, _, (hb.block q h.lt).trans hq⟩
 have HB : Hid (RefY w B q (m ++ [x])) := h
 have hBw := h.base
 obtain ⟨j, hj⟩ : ∃ j, m.length = j := ⟨_, rfl⟩
 have HJ : Hid (m.length = j) := hj
 obtain ⟨ln, hln⟩ : ∃ ln, (m ++ [x]).length = ln := ⟨_, rfl⟩
 have HLn : Hid ((m ++ [x]).length = ln) := hln
 rw [hj, hln] at HF
 have hlj : ln = j + 1 := by rw [← hln, ← hj]; simp
 have hk : (ln : Int) - 1 = (j : Int) := by omega
 have hw : IntKind.i64.wrap (j : Int) = (j : Int) := by rw [IntKind.wrap_i64]; omega
 have hl9 : ln ≤ 900 := by omega
 have hl0 : j < ln := by omega
 have hxb : (x.2 == c) = false := by simpa using hx
 generalize hasY (m ++ [x]) = H at *
 clear h hok hq hr hlt hx hj hln hlj
 go_enter Tryz.func20, Tryz.ntmps20
 go_wp2_with (first
  | (go_at_call 42; refine HH.out.mono ?_; rintro e w1 ⟨rfl, hb1⟩; obtain ⟨c0, c1, hr1, hu1⟩ := HF.out w1 hb1; have HB1 : Hid (Below w.heap.size w w1) := hb1; have HR1 : Hid (RowY w1 B (.slice (some ⟨g, 0, none⟩) ln cp) (m ++ [x])) := hr1; have HU1 : Hid (∃ u, w1.heap[q]? = some (.cells #[u] 69 (0, 0))) := hu1; have HO1 : Hid (w1.ownsRow B 88 2 (.slice (some ⟨g, 0, none⟩) ln cp) ln (flatY (m ++ [x]))) := (by have := hr1; unfold RowY at this; rw [HLn.out] at this; exact this); clear hb1 hr1 hu1)
  | (at_builtin; refine wpList_append_lies _ rfl _ _ 67 rfl B 88 i0 (.agg #[.int .i64 0, .int .i64 0]) 2 16 Tryz.underlying67 hi hz0 hz1 hz2 rfl (by decide) (.slice (some ⟨g, 0, none⟩) ln cp) ln (flatY (m ++ [x])) rfl (HO1.out.alloc _) ⟨w1.heap.size, 0, none⟩ 1 1 (encY (n, c)) rfl rfl (World.news_of_block (heap_alloc_new w1 _)) (encY_one _) (by decide) (by unfold maxLen; omega) (by omega) (by have := HB1.out.size; simp; omega) _ rfl ?_; intro g4 cap4 w4 own4 gr4 _ _; obtain ⟨w5, e5⟩ : ∃ w5, w4.setCell ⟨q, 0, none⟩ (.slice (some ⟨g4, 0, none⟩) (ln + 1) cap4) = w5 := ⟨_, rfl⟩; obtain ⟨⟨u4, x4⟩, f4, hfin, hbel⟩ := row_append (x := (n, c)) HB1.out HB.out HR1.out gr4 (by rw [HLn.out]; exact own4) e5 HU1.out; have HFin : Hid (RefY w5 B q ((m ++ [x]) ++ [(n, c)]) ∧ RF B w w5) := ⟨hfin, hbel⟩; clear own4 gr4 hfin hbel))
 go_ret
 exact ⟨rfl, HFin.out⟩
theorem rin_same (w : World) (B q : Nat) (m : List Ly) (x : Ly) (n c : Int) (h : RefY w B q (m ++ [x])) (hok : LyOk (m ++ [x])) (hlen : m.length ≤ 800) (hx : x.2 = c) (h1 : 1 ≤ n) (h2 : n ≤ 1099511627776) (h3 : 0 ≤ c) (h4 : c ≤ 1048576) (h5 : hasY (m ++ [x]) + n ≤ 1099511627776) :
  Calls Tryz.prog 20 #[ptrK q, .int .i64 n, .int .i64 c] w fun e w' => e = .returned (.int .i64 0) ∧ RefY w' B q (m ++ [(x.1 + n, c)]) ∧ RF B w w' := by
 have HH : Hid (Calls Tryz.prog 42 _ w _) := rhas_any w B q (m ++ [x]) h hok (by simp; omega)
 obtain ⟨a, cp, hq, hr, hlt⟩ := h.later
 have hm0 := hasY_nonneg hok.pos
 have hx1 := (hok.pos x (by simp)).1
 have hx2 : x.1 + n ≤ 1099511627776 := by
  have h9 : PosY m := fun y hy => hok.pos y (by simp [hy])
  have := hasY_nonneg h9
  rw [hasY_app, hasY_cons, hasY_nil] at h5
  omega
 obtain ⟨g, rfl, _, _⟩ := (hlt w (Below.refl _ _)).2 m.length x (by simp)
 have HF : Hid (∀ W, Below w.heap.size w W → W.cell? ⟨q, 0, none⟩ = some (.slice (some ⟨g, 0, none⟩) (m ++ [x]).length cp) ∧ W.cell? ⟨g, m.length * 2, none⟩ = some (.int .i64 x.1) ∧ W.cell? ⟨g, m.length * 2 + 1, none⟩ = some (.int .i64 x.2) ∧ W.frozen? ⟨g, m.length * 2, none⟩ = false ∧ ∃ W2, W.setCell ⟨g, m.length * 2, none⟩ (.int .i64 (x.1 + n)) = W2 ∧ W2.cell? ⟨q, 0, none⟩ = some (.slice (some ⟨g, 0, none⟩) (m ++ [x]).length cp) ∧ RefY W2 B q (m ++ [(x.1 + n, x.2)]) ∧ RF B w W2) := fun W hb => by
  obtain ⟨c0, hc⟩ := hlt W hb
  obtain ⟨g', e, h8, h9⟩ := hc m.length x (by simp)
  cases e
  have hrW := hr.below hb
  obtain ⟨cc, hk⟩ := hrW.kind (g := g) rfl
  have hqW := (hb.block q h.lt).trans hq
  have hgq : q ≠ g := fun e => blk_neY hqW hk (by decide) e
  have hq2 := (Below.heap_setCell W ⟨g, m.length * 2, none⟩ (.int .i64 (x.1 + n)) q hgq).trans hqW
  refine ⟨c0, h8, h9, frozen_of_heap hk _, _, rfl, cell_blk hq2 0, ⟨⟨_, hq2, hrW.setLast (x.1 + n)⟩, h.lo⟩, ⟨(hb.mono h.base).setCell (hrW.lt (g := g) rfl).1 _, (OffR.of_below hb).trans (OffR.set (Or.inr ⟨_, hk⟩) _)⟩⟩
 obtain ⟨j, hj⟩ : ∃ j, m.length = j := ⟨_, rfl⟩
 obtain ⟨ln, hln⟩ : ∃ ln, (m ++ [x]).length = ln := ⟨_, rfl⟩
 rw [hj, hln, hx] at HF
 have hlj : ln = j + 1 := by rw [← hln, ← hj]; simp
 have hk : (ln : Int) - 1 = (j : Int) := by omega
 have hw : IntKind.i64.wrap (j : Int) = (j : Int) := by rw [IntKind.wrap_i64]; omega
 have hl9 : ln ≤ 900 := by omega
 have hl0 : j < ln := by omega
 generalize hasY (m ++ [x]) = H at *
 clear h hok hq hr hlt hj hln hlj
 generalize x.1 = x1 at *
 clear hx
 go_enter Tryz.func20, Tryz.ntmps20
 go_wp2_with (go_at_call 42; refine HH.out.mono ?_; rintro e w1 ⟨rfl, hb1⟩; obtain ⟨c0, c1, c2, f1, W2, e2, _⟩ := HF.out w1 hb1; obtain ⟨d0, d1, d2, g1, W3, e3, y3, hfin, hbel⟩ := HF.out w1.drew hb1.drew; have HFin : Hid (RefY W3 B q (m ++ [(x1 + n, c)]) ∧ RF B w W3) := ⟨hfin, hbel⟩; clear hb1 hfin hbel)
 go_region
 all_goals
  go_wp2
  go_ret
  exact ⟨rfl, HFin.out⟩
theorem rin_any (w : World) (B q : Nat) (m : List Ly) (n c : Int) (h : RefY w B q m) (hok : LyOk m) (hlen : m.length ≤ 800) :
  Calls Tryz.prog 20 #[ptrK q, .int .i64 n, .int .i64 c] w fun e w' => e = .returned (.int .i64 (inE m n c)) ∧ RefY w' B q (inL m n c) ∧ RF B w w' := by
 by_cases hx : 1 ≤ n ∧ n ≤ 1099511627776 ∧ 0 ≤ c ∧ c ≤ 1048576
 ·obtain ⟨h1, h2, h3, h4⟩ := hx
  by_cases h5 : hasY m + n ≤ 1099511627776
  ·have hE := inE_ok h1 h2 h3 h4 h5
   have e : inL m n c = addL m n c := by unfold inL; rw [if_pos hE]
   rw [hE, e]
   rcases List.eq_nil_or_concat m with rfl | ⟨m, x, rfl⟩
   ·exact rin_first w B q n c h h1 h2 h3 h4
   ·rw [List.concat_eq_append] at *
    have hlm : m.length ≤ 800 := by simp at hlen; omega
    rw [addL_snoc]
    by_cases hx : x.2 = c
    ·rw [if_pos hx]
     exact rin_same w B q m x n c h hok hlm hx h1 h2 h3 h4 h5
    ·rw [if_neg hx]
     exact rin_next w B q m x n c h hok hlm hx h1 h2 h3 h4 h5
  ·have hE : inE m n c = 2 := by unfold inE; rw [if_neg fun h9 => h5 h9.2.2.2.2]
   rw [hE]
   refine (rin_many w B q m n c h hok (by omega) h1 h2 h3 h4 (by omega)).mono ?_
   rintro e w' ⟨rfl, hb⟩
   exact ⟨rfl, rinL_err h (by rw [hE]; decide) hb⟩
 ·have hE : inE m n c = 2 := by unfold inE; rw [if_neg fun h9 => hx ⟨h9.1, h9.2.1, h9.2.2.1, h9.2.2.2.1⟩]
  rw [hE]
  refine (rin_bound w q n c hx).mono ?_
  rintro e w' ⟨rfl, hb⟩
  exact ⟨rfl, rinL_err h (by rw [hE]; decide) hb⟩
end Go.Proofs.YtpnmbomjnpheeaaGreatDoor
