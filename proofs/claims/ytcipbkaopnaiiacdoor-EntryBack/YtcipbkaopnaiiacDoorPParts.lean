/-
  What place.parts answers, over whatever world; condition: the text is no longer than a string may be.
-/
import Derived.Test.YtcipbkaopnaiiacDoorPBox
import Derived.Test.YtcipbkaopnaiiacDoorBzA
import Derived.Test.YtcipbkaopnaiiacDoorSCut
import Derived.BigQuiet
namespace Go.Proofs.YtcipbkaopnaiiacDoor
open Go.RowKit Go.Lib Go.Sort

/-- Are row and bay numbers? -/
def plNum (l : List UInt8) : Bool := isNum 4 (cutA 45 (cutB 45 l)) && isNum 4 (cutB 45 (cutB 45 l))
def plOf (l : List UInt8) : Pl := (⟨(cutA 45 l).toArray⟩, numR 4 (cutA 45 (cutB 45 l)), numR 4 (cutB 45 (cutB 45 l)))
def zeroP : Pl := (⟨#[]⟩, 0, 0)
/-- A text as a place, and the number of its error. -/
def readP (l : List UInt8) : Pl × Nat := if plNum l then (if placeErr (plOf l) = 0 then (plOf l, 0) else (zeroP, placeErr (plOf l))) else (zeroP, 1)
theorem scut_any (s : ByteArray) (c : UInt8) (w : World) (hz : s.size ≤ maxLen) :
    Calls Tryd.prog 19 #[.string s, .string ⟨#[c]⟩] w fun e w' => e = .returned (.tuple #[.string ⟨(cutA c s.data.toList).toArray⟩, .string ⟨(cutB c s.data.toList).toArray⟩, .bool (has c s.data.toList)]) ∧ ∃ n, w' = w.drewN n := by
  unfold cutA cutB
  cases h : has c s.data.toList with
  | true => exact scut_hit s c w hz h
  | false =>
    refine (scut_miss s c w h).mono ?_
    rintro e w' ⟨rfl, rfl⟩
    refine ⟨?_, 0, rfl⟩
    have e : (⟨s.data.toList.toArray⟩ : ByteArray) = s := by cases s; simp
    simp [e]; rfl

theorem below_set3 {B n : Nat} {w W : World} (hb : Below B w W) (hn : B ≤ n) (a b c : Value) : Below B w (((W.setCell ⟨n, 0, none⟩ a).setCell ⟨n, 1, none⟩ b).setCell ⟨n, 2, none⟩ c) :=
  ((hb.setCell (p := ⟨n, 0, none⟩) hn _).setCell (p := ⟨n, 1, none⟩) hn _).setCell (p := ⟨n, 2, none⟩) hn _
set_option maxRecDepth 100000 in
set_option maxHeartbeats 2000000 in
theorem parts_p (s : ByteArray) (w : World) (hz : s.size ≤ maxLen) :
    Calls Tryd.prog 37 #[.string s] w fun e w' => e = .returned (.tuple #[agP (plOf s.data.toList), .bool (plNum s.data.toList)]) ∧ Below w.heap.size w w' := by
  have hl0 : s.data.toList.length ≤ maxLen := by rw [size_len]; exact hz
  have hlB := cutB_le 45 s.data.toList
  have hlA := cutA_le 45 (cutB 45 s.data.toList)
  have hlC := cutB_le 45 (cutB 45 s.data.toList)
  have h1 := fun w => scut_any s 45 w hz
  have h2 := fun w => scut_any ⟨(cutB 45 s.data.toList).toArray⟩ 45 w (by rw [mk_size]; omega)
  have h3 := fun w => numRead ⟨(cutA 45 (cutB 45 s.data.toList)).toArray⟩ 4 w (by decide) (by rw [mk_size]; omega)
  have h4 := fun w => numRead ⟨(cutB 45 (cutB 45 s.data.toList)).toArray⟩ 4 w (by decide) (by rw [mk_size]; omega)
  simp only at h2 h3 h4
  unfold plOf plNum agP
  simp only
  generalize (⟨(cutA 45 s.data.toList).toArray⟩ : ByteArray) = zA at *
  generalize has 45 s.data.toList = q1 at *
  generalize has 45 (cutB 45 s.data.toList) = q2 at *
  generalize numR 4 (cutA 45 (cutB 45 s.data.toList)) = n1 at *
  generalize numR 4 (cutB 45 (cutB 45 s.data.toList)) = n2 at *
  generalize isNum 4 (cutA 45 (cutB 45 s.data.toList)) = b1 at *
  generalize isNum 4 (cutB 45 (cutB 45 s.data.toList)) = b2 at *
  generalize (⟨(cutA 45 (cutB 45 s.data.toList)).toArray⟩ : ByteArray) = sA at *
  generalize (⟨(cutB 45 (cutB 45 s.data.toList)).toArray⟩ : ByteArray) = sC at *
  generalize (⟨(cutB 45 s.data.toList).toArray⟩ : ByteArray) = sB at *
  clear hl0 hlB hlA hlC hz
  cases b1
  all_goals
    go_enter Tryd.func37, Tryd.ntmps37
    go_wp2_with (first
      | (go_at_call_of 19 (Value.string s); refine (h1 _).mono ?_; rintro e w1 ⟨rfl, n, rfl⟩)
      | (go_at_call_of 19 (Value.string sB); refine (h2 _).mono ?_; rintro e w2 ⟨rfl, m, rfl⟩)
      | (go_at_call_of 36 (Value.string sA); refine (h3 _).mono ?_; rintro e w3 ⟨rfl, rfl⟩)
      | (go_at_call_of 36 (Value.string sC); refine (h4 _).mono ?_; rintro e w4 ⟨rfl, rfl⟩))
    refine bodyPost_ret (v := .tuple #[.agg #[.string zA, .int .i64 n1, .int .i64 n2], .bool _]) (by simp [results, Tryd.results37, go_sem]) rfl ⟨rfl, ?_⟩
    exact below_set3 (below_drewN ((Below.refl _ w).alloc (Nat.le_refl _) _) _) (Nat.le_refl _) _ _ _
end Go.Proofs.YtcipbkaopnaiiacDoor
