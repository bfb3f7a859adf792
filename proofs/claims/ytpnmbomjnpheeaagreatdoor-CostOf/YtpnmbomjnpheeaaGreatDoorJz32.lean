/-
 A slice of flows as an argument, opened; CostKeeps at any input.
-/
import Derived.Test.YtpnmbomjnpheeaaGreatDoorJz8
import Derived.ProofKit
import Derived.OpenShut
import Derived.Stop.Joined
import Derived.Lib.SmallJoins
import Derived.Deep.Slices
import Derived.Test.YtpnmbomjnpheeaaGreatDoorJz3
import Derived.Test.YtpnmbomjnpheeaaGreatDoorJz4
set_option maxRecDepth 100000
set_option maxHeartbeats 16000000
namespace Go.Proofs.YtpnmbomjnpheeaaGreatDoor
open Go.Joins Go.Deep
open Go.Sort Go.Lib
open Go.ChangeMaps (open_string shut_string)
open Go.ChangeShapes Go.WideShapes Go.ChangeAt Go.WideMaps Go.WideElems Go.RowKit
end Go.Proofs.YtpnmbomjnpheeaaGreatDoor
namespace Go.Proofs.YtpnmbomjnpheeaaGreatDoor
open Go.RowKit Go.Lib
theorem restY_snoc : ∀ {m : List Ly} {x : Ly} {n : Int}, PosY m → 1 ≤ x.1 → 0 ≤ n → restY (m ++ [x]) n = restY m n ++ (if x.1 ≤ n - min n (hasY m) then [] else [(x.1 - (n - min n (hasY m)), x.2)])
 | [], x, n, _, _, h0 => by
  rw [hasY_nil, show n - min n 0 = n by omega]
  rfl
 | y :: m, x, n, h, hx1, h0 => by
  have h1 := h.head
  have h2 := hasY_nonneg h.tail
  rw [hasY_cons]
  show (if y.1 ≤ n then restY (m ++ [x]) (n - y.1) else (y.1 - n, y.2) :: (m ++ [x])) = (if y.1 ≤ n then restY m (n - y.1) else (y.1 - n, y.2) :: m) ++ _
  by_cases hy : y.1 ≤ n
  ·rw [if_pos hy, if_pos hy, restY_snoc h.tail hx1 (by omega), show n - y.1 - min (n - y.1) (hasY m) = n - min n (y.1 + hasY m) by omega]
  ·rw [if_neg hy, if_neg hy, show n - min n (y.1 + hasY m) = 0 by omega, if_neg (show ¬ x.1 ≤ 0 by omega), show x.1 - 0 = x.1 by omega]; rfl
theorem restY_succ {m : List Ly} {k : Nat} {x : Ly} {n : Int} (hp : PosY m) (h0 : 0 ≤ n) (h : m[k]? = some x) : restY (m.take (k + 1)) n = restY (m.take k) n ++ (if x.1 ≤ n - min n (hasY (m.take k)) then [] else [(x.1 - (n - min n (hasY (m.take k))), x.2)]) := by
 rw [List.take_add_one, h]
 exact restY_snoc (fun y hy => hp y (List.mem_of_mem_take hy)) (hp x (List.mem_of_getElem? h)).1 h0
theorem ly_box (wr : World) (x : Ly) (z : Int) : ∃ W1 W2 : World, wr.alloc (.cells #[.int .i64 x.1, .int .i64 x.2] 88) = W1 ∧ W1.setCell ⟨wr.heap.size, 0, none⟩ (.int .i64 z) = W2 ∧
  Below wr.heap.size wr W1 ∧ Below wr.heap.size wr W2 ∧ W1.cell? ⟨wr.heap.size, 0, none⟩ = some (.int .i64 x.1) ∧ W1.frozen? ⟨wr.heap.size, 0, none⟩ = false ∧ W2.cell? ⟨wr.heap.size, 0, none⟩ = some (.int .i64 z) ∧ W2.cell? ⟨wr.heap.size, 1, none⟩ = some (.int .i64 x.2) := by
 have hb := heap_alloc_new wr (.cells #[.int .i64 x.1, .int .i64 x.2] 88)
 have h1 : Below wr.heap.size wr (wr.alloc (.cells #[.int .i64 x.1, .int .i64 x.2] 88)) := (Below.refl _ _).alloc (Nat.le_refl _) _
 obtain ⟨w2, e2, a2, _, _, _⟩ := set_blk (c' := #[.int .i64 z, .int .i64 x.2]) hb 0 (.int .i64 z) rfl
 refine ⟨_, w2, rfl, e2, h1, ?_, cell_blk hb 0, frozen_of_heap hb 0, cell_blk a2 0, cell_blk a2 1⟩
 rw [← e2]
 exact h1.setCell (Nat.le_refl _) _
theorem RowY.shape {w : World} {B : Nat} {v : Value} {m : List Ly} (h : RowY w B v m) : ∃ a c, v = .slice a m.length c := by
 rcases h.forms with ⟨rfl, rfl⟩ | ⟨g, cap, rfl, _⟩
 ·exact ⟨none, 0, rfl⟩
 ·exact ⟨_, cap, rfl⟩
theorem RowY.base {w : World} {B B' : Nat} {v : Value} {m : List Ly} (h : RowY w B v m) (hB : B' ≤ B) : RowY w B' v m := by
 refine ⟨h.1, ?_⟩
 rcases h.2 with h1 | ⟨g, cap, cur, rfl, h2, h3⟩
 ·exact Or.inl h1
 ·exact Or.inr ⟨g, cap, cur, rfl, Nat.le_trans hB h2, h3⟩
theorem rout_bound (w : World) (q : Nat) (n : Int) (hx : ¬ (1 ≤ n ∧ n ≤ 1099511627776)) :
  Calls Tryz.prog 21 #[ptrK q, .int .i64 n] w fun e w' => e = .returned (.tuple #[.int .i64 0, .int .i64 2]) ∧ Below w.heap.size w w' := by
 by_cases h1 : n < 1
 ·clear hx
  go_enter Tryz.func21, Tryz.ntmps21
  go_wp2
  go_ret2
  exact ⟨rfl, Below.refl _ _⟩
 ·have h2 : 1099511627776 < n := by omega
  clear hx
  go_enter Tryz.func21, Tryz.ntmps21
  go_wp2
  go_ret2
  exact ⟨rfl, Below.refl _ _⟩
theorem rout_short (w : World) (B q : Nat) (m : List Ly) (n : Int) (h : RefY w B q m) (hok : LyOk m) (hlen : m.length ≤ 1000) (h1 : 1 ≤ n) (h2 : n ≤ 1099511627776) (hx : hasY m < n) :
  Calls Tryz.prog 21 #[ptrK q, .int .i64 n] w fun e w' => e = .returned (.tuple #[.int .i64 0, .int .i64 9]) ∧ Below w.heap.size w w' := by
 have HH : Hid (Calls Tryz.prog 42 _ w _) := rhas_any w B q m h hok hlen
 generalize hasY m = H at *
 clear h hok hlen
 go_enter Tryz.func21, Tryz.ntmps21
 go_wp2_with (go_at_call 42; refine HH.out.mono ?_; rintro e w1 ⟨rfl, hb1⟩)
 go_ret2
 exact ⟨rfl, hb1⟩
theorem rout_fine (w : World) (B q : Nat) (m : List Ly) (n : Int) (h : RefY w B q m) (hok : LyOk m) (hlen : m.length ≤ 1000) (h1 : 1 ≤ n) (h2 : n ≤ 1099511627776) (hx : n ≤ hasY m) :
  Calls Tryz.prog 21 #[ptrK q, .int .i64 n] w fun e w' => e = .returned (.tuple #[.int .i64 (outS m n), .int .i64 0]) ∧ RefY w' B q (restY m n) ∧ RF B w w' := by
 obtain ⟨i0, hi, hz0, hz1, hz2⟩ := info_parts Tryz.infoLy
 have HH : Hid (Calls Tryz.prog 42 _ w _) := rhas_any w B q m h hok hlen
 have HW : Hid (∀ W, Below w.heap.size w W → Calls Tryz.prog 43 #[ptrK q] W fun e w' => e = .returned (.int .i64 (worthY m)) ∧ Below W.heap.size W w') := fun W hb => rworth_any W B q m (h.below hb) hok hlen
 have hok2 : LyOk (restY m n) := ⟨restY_pos hok.pos (by omega), by rw [restY_has hok.pos (by omega) hx]; have := hok.most; omega⟩
 have hlen2 : (restY m n).length ≤ 1000 := by have := restY_len m n; omega
 have HW2 : Hid (∀ W, RefY W B q (restY m n) → Calls Tryz.prog 43 #[ptrK q] W fun e w' => e = .returned (.int .i64 (worthY (restY m n))) ∧ Below W.heap.size W w') := fun W h => rworth_any W B q _ h hok2 hlen2
 obtain ⟨a, cp, hq, hr, hlt⟩ := h.later
 have hwo := out_worth (n := n) hok.pos (by omega)
 have hwm := worth_most hok
 have hwm2 := worth_most hok2
 have hm := hok.most
 have HQ : Hid (RefY w B q m) := h
 have HL : Hid (∀ W, Below w.heap.size w W → _) := hlt
 have HP : Hid (PosY m) := hok.pos
 have HFin : Hid (∀ W v, Below w.heap.size w W → RowY W w.heap.size v (restY m n) → (∃ u, W.cell? ⟨q, 0, none⟩ = some u) ∧ W.frozen? ⟨q, 0, none⟩ = false ∧ RefY (W.setCell ⟨q, 0, none⟩ v) B q (restY m n) ∧ RF B w (W.setCell ⟨q, 0, none⟩ v)) := fun W v hb hv => by
  have hqW := (hb.block q h.lt).trans hq
  have h5b := Joins.block_setCell (i := 0) hqW v
  refine ⟨⟨_, cell_blk hqW 0⟩, frozen_of_heap hqW 0, ⟨⟨v, by simpa using h5b, (hv.base h.base).kept fun g hg' => ?_⟩, h.lo⟩, ⟨(hb.mono h.base).setCell h.lo _, (OffR.of_below hb).trans (OffR.set (Or.inl ⟨_, hqW⟩) _)⟩⟩
  refine Below.heap_setCell W ⟨q, 0, none⟩ v g fun e => ?_
  obtain ⟨c, hk⟩ := hv.kind hg'
  exact blk_neY hk hqW (by decide) e
 obtain ⟨H, hH⟩ : ∃ H, hasY m = H := ⟨_, rfl⟩
 have HHq : Hid (hasY m = H) := hH
 rw [hH] at hx hm HH
 obtain ⟨ln, hln⟩ : ∃ ln, m.length = ln := ⟨_, rfl⟩
 have HLn : Hid (m.length = ln) := hln
 rw [hln] at HL hlen
 clear h hok hq hr hlt hln hok2 hlen2 hH
 go_enter Tryz.func21, Tryz.ntmps21
 go_wp2_with (first
  | (go_at_call 42; refine HH.out.mono ?_; rintro e w1 ⟨rfl, hb1⟩; have HB1 : Hid (Below w.heap.size w w1) := hb1; clear hb1)
  | (go_at_call 43; refine (HW.out w1 HB1.out).mono ?_; rintro e w2 ⟨rfl, hb2⟩; have HB2 : Hid (Below w.heap.size w w2) := HB1.out.trans (hb2.mono HB1.out.size); clear hb2))
 go_loopw [1, 7, 8] (fun vn vl vi wr => ∃ k : Nat, k ≤ ln ∧ vi = .int .i64 k ∧ vn = .int .i64 (n - min n (hasY (m.take k))) ∧ RowY wr w.heap.size vl (restY (m.take k) n) ∧ Below w.heap.size w wr) (fun _ _ vi _ => ln - (RowKit.intOf vi).toNat)
 case atStart => exact ⟨0, Nat.zero_le _, rfl, by show Value.int .i64 n = Value.int .i64 (n - min n 0); congr 1; omega, World.ownsRow_nil _ _ _ _, HB2.out⟩
 case round =>
  rename_i vnn vll
  obtain ⟨k, hk, rfl, rfl, hrow, hwr⟩ := hrel
  obtain ⟨c0, hc⟩ := HL.out wr hwr
  by_cases hlt : k < ln
  ·obtain ⟨x, hx'⟩ : ∃ x, m[k]? = some x := ⟨_, List.getElem?_eq_getElem (by rw [HLn.out]; exact hlt)⟩
   obtain ⟨g, rfl, c1, c2⟩ := hc k x hx'
   have hE := restY_succ HP.out (show 0 ≤ n by omega) hx'
   have hS := hasY_succ hx'
   obtain ⟨b1, b2⟩ := hasY_take HP.out k
   obtain ⟨x1, _, _⟩ := HP.out x (List.mem_of_getElem? hx')
   obtain ⟨b3, b4⟩ := hasY_take HP.out (k + 1)
   obtain ⟨al, cl, rfl⟩ := hrow.shape
   have hll : (restY (m.take k) n).length ≤ 1000 := by
    have h3 := restY_len (m.take k) n
    have h4 := List.length_take_le' k m
    have := HLn.out
    omega
   have HRow : Hid (RowY wr w.heap.size (.slice al (restY (m.take k) n).length cl) (restY (m.take k) n)) := hrow
   have HWr : Hid (Below w.heap.size w wr) := hwr
   have hrr : 0 ≤ n - min n (hasY (m.take k)) := by omega
   have hr2 : n - min n (hasY (m.take k)) ≤ 1099511627776 := by omega
   have hxx : x.1 ≤ 2199023255552 := by have := HHq.out; omega
   clear hx' hc hrow hwr
   by_cases hxr : x.1 ≤ n - min n (hasY (m.take k))
   ·rw [if_pos hxr, List.append_nil] at hE
    have HE : Hid (restY (m.take (k + 1)) n = restY (m.take k) n) := hE
    have HN : Hid (n - min n (hasY (m.take k)) - x.1 = n - min n (hasY (m.take (k + 1)))) := by show _ = _; omega
    obtain ⟨W1, W2, hal, hst, bb1, bb2, d0, f0, y0, y1⟩ := ly_box wr x 0
    have HB2' : Hid (Below wr.heap.size wr W2) := bb2
    generalize n - min n (hasY (m.take k)) = R at *
    generalize restY (m.take k) n = rs at *
    clear hE hS b1 b2 b3 b4 bb1 bb2
    obtain ⟨xa, xb⟩ := x
    simp only at *
    go_wp2
    go_roundw
    case rel => exact ⟨k + 1, by omega, by go_num, by rw [← HN.out], by rw [HE.out]; exact HRow.out.below HB2'.out, HWr.out.trans (HB2'.out.mono HWr.out.size)⟩
    case measure => simp [RowKit.intOf]; omega
   ·rw [if_neg hxr] at hE
    have HE : Hid (restY (m.take (k + 1)) n = restY (m.take k) n ++ [(x.1 - (n - min n (hasY (m.take k))), x.2)]) := hE
    have HN : Hid (0 = n - min n (hasY (m.take (k + 1)))) := by show _ = _; omega
    obtain ⟨W1, W2, hal, hst, bb1, bb2, d0, f0, y0, y1⟩ := ly_box wr x (x.1 - (n - min n (hasY (m.take k))))
    have HB2' : Hid (Below wr.heap.size wr W2) := bb2
    have hs2 := bb2.size
    generalize n - min n (hasY (m.take k)) = R at *
    generalize restY (m.take k) n = rs at *
    obtain ⟨rl, hrl⟩ : ∃ rl, rs.length = rl := ⟨_, rfl⟩
    have HRl : Hid (rs.length = rl) := hrl
    rw [hrl] at HRow hll ⊢
    have HO2 : Hid (W2.ownsRow w.heap.size 88 2 (.slice al rl cl) rl (flatY rs)) := by
     have := HRow.out.below bb2
     unfold RowY at this
     rw [hrl] at this
     exact this
    have hsz : w.heap.size ≤ W2.heap.size := Nat.le_trans HWr.out.size bb2.size
    have HWW : Hid (Below w.heap.size w W2) := HWr.out.trans (bb2.mono HWr.out.size)
    clear hE hS b1 b2 b3 b4 bb1 bb2 hrl
    obtain ⟨xa, xb⟩ := x
    simp only at *
    go_wp2_with (at_builtin; refine wpList_append_lies _ rfl _ _ 67 rfl w.heap.size 88 i0 (.agg #[.int .i64 0, .int .i64 0]) 2 16 Tryz.underlying67 hi hz0 hz1 hz2 rfl (by decide) (.slice al rl cl) rl (flatY rs) rfl (HO2.out.alloc _) ⟨W2.heap.size, 0, none⟩ 1 1 (encY (xa - R, xb)) rfl rfl (World.news_of_block (heap_alloc_new W2 _)) (encY_one _) (by decide) (by unfold maxLen; omega) (by omega) (by simp; omega) _ rfl ?_; intro g4 cap4 w4 own4 gr4 _ _; have HB4 : Hid (Below w.heap.size w w4) := (HWW.out.alloc hsz _).grown gr4 (by simp; omega) (fun k hk => (HO2.out.lt k hk).1); have HO4 : Hid (RowY w4 w.heap.size (.slice (some ⟨g4, 0, none⟩) (rl + 1) cap4) (rs ++ [(xa - R, xb)])) := (by unfold RowY; rw [List.length_append, HRl.out, flatY_app, flatY_one]; exact own4); clear own4 gr4)
    go_roundw
    case rel => exact ⟨k + 1, by omega, by go_num, by rw [← HN.out], by rw [HE.out]; exact HO4.out, HB4.out⟩
    case measure => simp [RowKit.intOf]; omega
  ·have e : m.take k = m := List.take_of_length_le (by rw [HLn.out]; omega)
   rw [e] at hrow ⊢
   obtain ⟨al, cl, rfl⟩ := hrow.shape
   obtain ⟨⟨u, z0⟩, z1, z2, z3⟩ := HFin.out wr _ hwr hrow
   obtain ⟨w5, e5⟩ : ∃ w5, wr.setCell ⟨q, 0, none⟩ (.slice al (restY m n).length cl) = w5 := ⟨_, rfl⟩
   rw [e5] at z2 z3
   have HZ : Hid (RefY w5 B q (restY m n) ∧ RF B w w5) := ⟨z2, z3⟩
   have HW3 : Hid (Calls Tryz.prog 43 _ w5 _) := HW2.out w5 z2
   have HOut : Hid (worthY m - worthY (restY m n) = outS m n) := by show _ = _; omega
   clear hc hrow hwr z2 z3 hwo
   generalize worthY (restY m n) = wa at *
   generalize worthY m = wb at *
   go_wp2_with (go_at_call 43; refine HW3.out.mono ?_; rintro e w6 ⟨rfl, hb6⟩)
   go_ret2
   exact ⟨by show Ending.returned (.tuple #[.int .i64 (wb - wa), .int .i64 0]) = _; rw [HOut.out], HZ.out.1.below hb6, ⟨HZ.out.2.below.trans (hb6.mono (Nat.le_trans HQ.out.base HZ.out.2.below.size)), HZ.out.2.off.trans (OffR.of_below hb6)⟩⟩
theorem rout_any (w : World) (B q : Nat) (m : List Ly) (n : Int) (h : RefY w B q m) (hok : LyOk m) (hlen : m.length ≤ 1000) :
  Calls Tryz.prog 21 #[ptrK q, .int .i64 n] w fun e w' => e = .returned (.tuple #[.int .i64 (outN m n), .int .i64 (outE m n)]) ∧ RefY w' B q (outL m n) ∧ RF B w w' := by
 unfold outN outL
 by_cases hx : 1 ≤ n ∧ n ≤ 1099511627776
 ·by_cases h3 : n ≤ hasY m
  ·have hE := outE_of hx.1 hx.2 h3
   rw [hE, if_pos rfl, if_pos rfl]
   exact rout_fine w B q m n h hok hlen hx.1 hx.2 h3
  ·have hE : outE m n = 9 := by unfold outE; rw [if_pos hx, if_neg h3]
   rw [hE, if_neg (by decide), if_neg (by decide)]
   refine (rout_short w B q m n h hok hlen hx.1 hx.2 (by omega)).mono ?_
   rintro e w' ⟨rfl, hb⟩
   exact ⟨rfl, h.below hb, RF.of_below h.base hb⟩
 ·have hE : outE m n = 2 := by unfold outE; rw [if_neg hx]
  rw [hE, if_neg (by decide), if_neg (by decide)]
  refine (rout_bound w q n hx).mono ?_
  rintro e w' ⟨rfl, hb⟩
  exact ⟨rfl, h.below hb, RF.of_below h.base hb⟩
end Go.Proofs.YtpnmbomjnpheeaaGreatDoor
namespace Go.Proofs.YtpnmbomjnpheeaaGreatDoor
open Go.RowKit Go.Lib Go.Sort
def txB (m : List Ly) : ByteArray := ⟨(textY m).toArray⟩
def preB (m : List Ly) (k : Nat) : ByteArray := if k = 0 then ⟨#[]⟩ else txB (m.take k) ++ ⟨#[32]⟩
theorem txB_succ {m : List Ly} {k : Nat} {x : Ly} (h : m[k]? = some x) : txB (m.take (k + 1)) = preB m k ++ wordB x := by
 have hlt := (List.getElem?_eq_some_iff.1 h).1
 unfold txB preB wordB
 have e : m.take (k + 1) = m.take k ++ [x] := by rw [List.take_add_one, h]; rfl
 rw [e, textY_snoc]
 by_cases h0 : k = 0
 ·subst h0
  rw [if_pos (by simp), if_pos rfl]
  apply ByteArray.ext
  simp
 ·rw [if_neg (by intro e9; have := congrArg List.length e9; rw [List.length_take, List.length_nil] at this; omega), if_neg h0]
  have e2 : (⟨#[32]⟩ : ByteArray) = ⟨([32] : List UInt8).toArray⟩ := rfl
  unfold txB
  rw [e2, str_append, str_append]
  simp
theorem txB_size {m : List Ly} (h : LyOk m) (hl : m.length ≤ 1000) (k : Nat) : (txB (m.take k)).size ≤ 22000 := by
 have h1 := textY_len (m.take k) fun x hx => wordY_len h (List.mem_of_mem_take hx)
 have h2 := List.length_take_le' k m
 unfold txB
 rw [← size_len, bytes_toList]
 omega
theorem preB_size {m : List Ly} (h : LyOk m) (hl : m.length ≤ 1000) (k : Nat) : (preB m k).size ≤ 22001 := by
 unfold preB
 have h1 := txB_size h hl k
 have e : (⟨#[32]⟩ : ByteArray).size = 1 := rfl
 by_cases h0 : k = 0
 ·rw [if_pos h0]; decide
 ·rw [if_neg h0, ByteArray.size_append, e]; omega
theorem joins3 (o a d : ByteArray) (ho : o.size ≤ 22001) (ha : a.size ≤ 13) (hd : d.size ≤ 13) : ∃ t1 t2 : ByteArray, (∀ w, (Op.stringOp .add o a).run Tryz.prog w = .ok (.string t1) w) ∧ (∀ w, (Op.stringOp .add t1 ⟨#[64]⟩).run Tryz.prog w = .ok (.string t2) w) ∧ (∀ w, (Op.stringOp .add t2 d).run Tryz.prog w = .ok (.string (o ++ ((a ++ ⟨#[64]⟩) ++ d))) w) := by
 have e : (⟨#[64]⟩ : ByteArray).size = 1 := rfl
 have e9 : o ++ ((a ++ ⟨#[64]⟩) ++ d) = ((o ++ a) ++ ⟨#[64]⟩) ++ d := by simp only [ByteArray.append_assoc]
 rw [e9]
 refine ⟨_, _, fun w => run_string_add_sum w _ _ ?_, fun w => run_string_add_sum w _ _ ?_, fun w => run_string_add_sum w _ _ ?_⟩
 all_goals
  (try simp only [ByteArray.size_append, e])
  omega
theorem rtext_any (w : World) (B q : Nat) (m : List Ly) (h : RefY w B q m) (hok : LyOk m) (hlen : m.length ≤ 1000) :
  Calls Tryz.prog 10 #[ptrK q] w fun e w' => e = .returned (.string ⟨(textY m).toArray⟩) ∧ Below w.heap.size w w' := by
 obtain ⟨a, c, _, _, hl⟩ := h.later
 have HL : Hid (∀ W, Below w.heap.size w W → _) := hl
 have HK : Hid (LyOk m) := hok
 have HPs : Hid (∀ k, (preB m k).size ≤ 22001 ∧ (txB (m.take k)).size ≤ 22000) := fun k => ⟨preB_size hok hlen k, txB_size hok hlen k⟩
 obtain ⟨ln, hln⟩ : ∃ ln, m.length = ln := ⟨_, rfl⟩
 have HLn : Hid (m.length = ln) := hln
 rw [hln] at hlen HL
 clear h hok hl hln
 go_enter Tryz.func10, Tryz.ntmps10
 go_wp2
 go_loopw [3, 4] (fun vs vi wr => ∃ k : Nat, k ≤ ln ∧ vi = .int .i64 k ∧ vs = .string (txB (m.take k)) ∧ Below w.heap.size w wr) (fun _ vi _ => ln - (RowKit.intOf vi).toNat)
 case atStart => exact ⟨0, Nat.zero_le _, rfl, rfl, Below.refl _ _⟩
 case round =>
  obtain ⟨k, hk, rfl, rfl, hwr⟩ := hrel
  obtain ⟨c0, hc⟩ := HL.out wr hwr
  by_cases hlt : k < ln
  ·obtain ⟨x, hx⟩ : ∃ x, m[k]? = some x := ⟨_, List.getElem?_eq_getElem (by rw [HLn.out]; exact hlt)⟩
   obtain ⟨g, rfl, c1, c2⟩ := hc k x hx
   have HE : Hid (txB (m.take (k + 1)) = preB m k ++ wordB x) := txB_succ hx
   have hbR : ∀ d os, Below w.heap.size w (grow (redrawn wr d) os) := fun d os => hwr.trans ((below_regrown wr d os).mono hwr.size)
   have k0 := cell_regrown c0
   have k1 := cell_regrown c1
   have k2 := cell_regrown c2
   obtain ⟨x1, x2, x3⟩ := HK.out.pos x (List.mem_of_getElem? hx)
   have hxq : x.1 ≤ 1099511627776 := by
    have h1 := hasY_take HK.out.pos (k + 1)
    have h2 := hasY_take HK.out.pos k
    have h3 := hasY_succ hx
    have := HK.out.most
    omega
   have hw1 : (⟨(decDigits x.1.toNat).toArray⟩ : ByteArray).size ≤ 13 := by rw [← size_len, bytes_toList]; exact dec_len 13 (by decide) (by omega)
   have hw2 : (⟨(decDigits x.2.toNat).toArray⟩ : ByteArray).size ≤ 13 := by rw [← size_len, bytes_toList]; exact dec_len 13 (by decide) (by omega)
   obtain ⟨p1, p2⟩ := HPs.out k
   obtain ⟨t1, t2, s1, s2, s3⟩ := joins3 (preB m k) _ _ p1 hw1 hw2
   rw [wordB_eq] at s3
   have cI1 := fun d os => Calls.regrown_of (w := wr) (d := d) (os := os) (refDecimal x.1 (by omega) (by omega) (grow (redrawn wr d) os))
   have cI2 := fun d os => Calls.regrown_of (w := wr) (d := d) (os := os) (refDecimal x.2 x2 (by omega) (grow (redrawn wr d) os))
   have HBR : Hid (∀ d os, Below w.heap.size w (grow (redrawn wr d) os)) := hbR
   have HPr : Hid (preB m k = if k = 0 then ⟨#[]⟩ else txB (m.take k) ++ ⟨#[32]⟩) := rfl
   generalize (⟨(decDigits x.1.toNat).toArray⟩ : ByteArray) = td1 at *
   generalize (⟨(decDigits x.2.toNat).toArray⟩ : ByteArray) = td2 at *
   generalize wordB x = wd at *
   obtain ⟨o2, ho2⟩ : ∃ o2, preB m k ++ wd = o2 := ⟨_, rfl⟩
   rw [ho2] at s3 HE
   clear hx hc hwr hw1 hw2 ho2 hbR
   obtain ⟨xa, xb⟩ := x
   simp only at *
   by_cases hk0 : k = 0
   ·have hpr : preB m k = ⟨#[]⟩ := by rw [HPr.out, if_pos hk0]
    have htx : txB (m.take k) = ⟨#[]⟩ := by subst hk0; rfl
    rw [hpr] at s1
    rw [htx]
    subst hk0
    clear hpr htx HPr p1 p2
    go_wp2
    refine wp_region_quiet_below (by kernel_rfl) (by kernel_rfl) ?_
    repeat (quiet_step (first | (go_at_call_of 29 (Value.int .i64 xa); exact cI1 _ _) | (go_at_call_of 29 (Value.int .i64 xb); exact cI2 _ _)))
    refine wpQuiet_nil ?_
    intro _ hw'
    obtain ⟨⟨dq, osq⟩, hw''⟩ := hw'
    subst hw''
    have HBE : Hid (Below w.heap.size w (grow (redrawn wr dq) osq)) := HBR.out dq osq
    generalize grow (redrawn wr dq) osq = WE at *
    clear cI1 cI2 k0 k1 k2
    go_wp2
    go_roundw
    case rel => exact ⟨1, by omega, by go_num, by rw [HE.out], HBE.out⟩
    case measure => simp [RowKit.intOf]; omega
   ·have hpr : preB m k = txB (m.take k) ++ ⟨#[32]⟩ := by rw [HPr.out, if_neg hk0]
    have s0 : ∀ w, (Op.stringOp .add (txB (m.take k)) ⟨#[32]⟩).run Tryz.prog w = .ok (.string (preB m k)) w := fun w => by
     rw [hpr]
     refine run_string_add_sum w _ _ ?_
     have e : (⟨#[32]⟩ : ByteArray).size = 1 := rfl
     rw [e]; omega
    have hk1 : (0 : Int) < k := by omega
    generalize preB m k = pb at *
    generalize txB (m.take k) = tb at *
    clear hpr HPr hk0
    go_wp2
    refine wp_region_quiet_below (by kernel_rfl) (by kernel_rfl) ?_
    repeat (quiet_step (first | (go_at_call_of 29 (Value.int .i64 xa); exact cI1 _ _) | (go_at_call_of 29 (Value.int .i64 xb); exact cI2 _ _)))
    refine wpQuiet_nil ?_
    intro _ hw'
    obtain ⟨⟨dq, osq⟩, hw''⟩ := hw'
    subst hw''
    have HBE : Hid (Below w.heap.size w (grow (redrawn wr dq) osq)) := HBR.out dq osq
    generalize grow (redrawn wr dq) osq = WE at *
    clear cI1 cI2 k0 k1 k2
    go_wp2
    go_roundw
    case rel => exact ⟨k + 1, by omega, by go_num, by rw [HE.out], HBE.out⟩
    case measure => simp [RowKit.intOf]; omega
  ·have e : m.take k = m := List.take_of_length_le (by rw [HLn.out]; omega)
   rw [e]
   clear hc
   go_wp2
   go_ret
   exact ⟨rfl, hwr⟩
end Go.Proofs.YtpnmbomjnpheeaaGreatDoor
namespace Go.Proofs.YtpnmbomjnpheeaaGreatDoor
open Go.RowKit Go.Lib Go.Sort
theorem Lnk.kind {w : World} : ∀ {ks : List Nat} {m : List Ly} {v : Value}, Lnk w ks m v → ∀ k ∈ ks, ∃ c, w.heap[k]? = some (.cells c 84 (0, 0))
 | [], [], _, _, k, hk => by cases hk
 | j :: _, _ :: _, _, h, k, hk => by
  rcases List.mem_cons.1 hk with rfl | hk
  ·exact ⟨_, h.1⟩
  ·exact Lnk.kind h.2 k hk
theorem LyR.notRef {w : World} {B q : Nat} {ks : List Nat} {m : List Ly} {H : Int} (h : LyR w B q ks m H) : ∀ k ∈ q :: ks, ¬ RefK w k := by
 intro k hk hr
 rcases List.mem_cons.1 hk with rfl | hk
 ·rcases hr with ⟨c, hc⟩ | ⟨c, hc⟩
  ·exact blk_neY h.top hc (by decide) rfl
  ·exact blk_neY h.top hc (by decide) rfl
 ·obtain ⟨d, hd⟩ := h.lnk.kind k hk
  rcases hr with ⟨c, hc⟩ | ⟨c, hc⟩
  ·exact blk_neY hd hc (by decide) rfl
  ·exact blk_neY hd hc (by decide) rfl
theorem LyAt.offR {w w' : World} {B q : Nat} {ks : List Nat} {m : List Ly} (h : LyAt w B q ks m) (ho : OffR w w') : LyAt w' B q ks m := ⟨h.r.of_blocks fun k hk => ho.block k (h.r.lt k hk) (h.r.notRef k hk), h.ok⟩
theorem RefY.offY {w w' : World} {B q : Nat} {m : List Ly} {y : List Nat} (h : RefY w B q m) (hf : Off y w w') (hy : ∀ k ∈ y, ¬ RefK w k) : RefY w' B q m := by
 obtain ⟨v, h1, h2⟩ := h.ex
 refine ⟨⟨v, (hf.block q h.lt fun e => hy q e (Or.inl ⟨_, h1⟩)).trans h1, h2.kept fun g hg => hf.block g (h2.lt hg).2 fun e => hy g e (Or.inr (h2.kind hg))⟩, h.lo⟩
section
variable {w0 W W' : World} {px q : Nat} {mx mr : List Ly} {s : Nat → Addr}
end
end Go.Proofs.YtpnmbomjnpheeaaGreatDoor
