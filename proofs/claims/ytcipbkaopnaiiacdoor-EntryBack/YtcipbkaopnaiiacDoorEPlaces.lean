/-
  What placesOf answers of an entry of each sort: pointers to the places that it has; nothing old is turned.
-/
import Derived.Test.YtcipbkaopnaiiacDoorEBox
import Derived.RegionTactic
namespace Go.Proofs.YtcipbkaopnaiiacDoor
open Go.RowKit Go.Lib Go.Sort

/-- One pointer in a row, two of them. -/
def Ptr1 (w : World) (g q o : Nat) : Prop := w.cell? ⟨g, 0, none⟩ = some (.pointer (some ⟨q, o, none⟩))
def Ptr2 (w : World) (g q o o' : Nat) : Prop := w.cell? ⟨g, 0, none⟩ = some (.pointer (some ⟨q, o, none⟩)) ∧ w.cell? ⟨g, 1, none⟩ = some (.pointer (some ⟨q, o', none⟩))
theorem places_to (k : ByteArray) (q : Nat) (w : World) (hk : k = kIn ∨ k = kMore) (h0 : w.cell? ⟨q, 0, none⟩ = some (.string k)) :
    Calls Tryd.prog 18 #[.pointer (some ⟨q, 0, none⟩)] w fun e w' => e = .returned (.tuple #[.slice (some ⟨w.heap.size, 0, none⟩) 1 1, .bool true]) ∧ w' = w.alloc (.cells #[.pointer (some ⟨q, 10, none⟩)] 48) := by
  rcases hk with rfl | rfl
  all_goals
    go_enter Tryd.func18, Tryd.ntmps18
    go_wp2
    go_ret2
    exact ⟨rfl, rfl⟩
theorem places_from (k : ByteArray) (q : Nat) (w : World) (hk : k = kOut ∨ k = kLess) (h0 : w.cell? ⟨q, 0, none⟩ = some (.string k)) :
    Calls Tryd.prog 18 #[.pointer (some ⟨q, 0, none⟩)] w fun e w' => e = .returned (.tuple #[.slice (some ⟨w.heap.size, 0, none⟩) 1 1, .bool true]) ∧ w' = w.alloc (.cells #[.pointer (some ⟨q, 7, none⟩)] 48) := by
  rcases hk with rfl | rfl
  all_goals
    go_enter Tryd.func18, Tryd.ntmps18
    go_wp2
    go_ret2
    exact ⟨rfl, rfl⟩
theorem places_move (q : Nat) (w : World) (h0 : w.cell? ⟨q, 0, none⟩ = some (.string kMove)) :
    Calls Tryd.prog 18 #[.pointer (some ⟨q, 0, none⟩)] w fun e w' => e = .returned (.tuple #[.slice (some ⟨w.heap.size, 0, none⟩) 2 2, .bool true]) ∧ w' = (w.alloc (.cells #[.pointer (some ⟨q, 7, none⟩), .pointer (some ⟨q, 10, none⟩)] 48)).drew := by
  go_enter Tryd.func18, Tryd.ntmps18
  go_wp2
  go_region
  go_wp2
  go_ret2
  exact ⟨rfl, rfl⟩
theorem places_hold (k : ByteArray) (q : Nat) (w : World) (hk : k = kHold ∨ k = kFree) (h0 : w.cell? ⟨q, 0, none⟩ = some (.string k)) :
    Calls Tryd.prog 18 #[.pointer (some ⟨q, 0, none⟩)] w fun e w' => e = .returned (.tuple #[.slice none 0 0, .bool true]) ∧ w' = w := by
  rcases hk with rfl | rfl
  all_goals
    go_enter Tryd.func18, Tryd.ntmps18
    go_wp2
    go_ret2
    exact ⟨rfl, rfl⟩
/-- A word that is another one, as the walk asks for it. -/
theorem other_word {k z : ByteArray} (h : k ≠ z) : (k.toList == z.data.toList) = false := by
  have := same_eq k z
  rw [decide_eq_false h, Lib.toList_data z] at this
  exact this
theorem places_other (k : ByteArray) (q : Nat) (w : World) (hk : NoKind k) (h0 : w.cell? ⟨q, 0, none⟩ = some (.string k)) :
    Calls Tryd.prog 18 #[.pointer (some ⟨q, 0, none⟩)] w fun e w' => e = .returned (.tuple #[.slice none 0 0, .bool false]) ∧ w' = w := by
  have e3 := other_word hk.in_
  have e4 := other_word hk.more
  have e5 := other_word hk.out
  have e6 := other_word hk.less
  have e7 := other_word hk.move
  have e8 := other_word hk.hold
  have e9 := other_word hk.free
  simp only at e3 e4 e5 e6 e7 e8 e9
  clear hk
  go_enter Tryd.func18, Tryd.ntmps18
  go_wp2
  go_ret2
  exact ⟨rfl, rfl⟩
end Go.Proofs.YtcipbkaopnaiiacDoor
