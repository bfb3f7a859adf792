/-
  What putBehind answers and leaves: a line more behind the one ahead, or an error and no turn.
-/
import Derived.Test.YtiegilnjfadhiabDoorKPutIn
import Derived.Test.YtiegilnjfadhiabDoorKLines
import Derived.Test.YtiegilnjfadhiabDoorKText
namespace Go.Proofs.YtiegilnjfadhiabDoor
open Go.RowKit Go.Lib Go.Sort

/-- The error's number. -/
def behE (m : List Ln) (a x : Ln) : Nat := if aheadN a x = true then putE m x.1 x.2.1 x.2.2 else 10
def behL (m : List Ln) (a x : Ln) : List Ln := if aheadN a x = true then putL m x.1 x.2.1 x.2.2 else m
set_option maxRecDepth 100000 in
set_option maxHeartbeats 4000000 in
/-- putBehind. -/
theorem putB_any (a x : Ln) (w : World) (s : Nat → Addr) (p b : Nat) (m : List Ln) (h : IsStock w p b m) (hz : x.1.1.size ≤ maxLen) (hz' : x.2.1.size ≤ maxLen) (hs : Five w s) (ho : w.cell? ⟨9, 0, none⟩ = some (err (s 9))) :
    Calls Tryd.prog 49 #[.pointer (some ⟨p, 0, none⟩), agN a, agN x] w fun e w' => e = .returned (errP s (behE m a x)) ∧ IsStock w' p b (behL m a x) ∧ w.grownBy w' (some b) := by
  have hg := boxN2_grew w a x
  have hx1 := boxN2_first w a x
  have hx2 := boxN2_second w a x
  have hC := kcompare_any a x (boxN2 w a x)
  have hlt := cell_lt ho
  have HP : Hid (∀ w1, Below w.heap.size w w1 → Calls Tryd.prog 21 #[.pointer (some ⟨p, 0, none⟩), agP x.1, .string x.2.1, .int .i64 x.2.2] w1 fun e w' => e = .returned (errP s (putE m x.1 x.2.1 x.2.2)) ∧ IsStock w' p b (putL m x.1 x.2.1 x.2.2) ∧ w1.grownBy w' (some b)) := fun w1 hb => put_any x.1 x.2.1 x.2.2 w1 s p b m (h.all hb) hz hz' (hs.below hb)
  have HO : Hid (∀ w1, Below w.heap.size w w1 → w1.cell? ⟨9, 0, none⟩ = some (err (s 9))) := fun w1 hb => by rw [hb.cell (p := ⟨9, 0, none⟩) hlt]; exact ho
  have HS : Hid (∀ w1, Below w.heap.size w w1 → IsStock w1 p b m) := fun w1 hb => h.all hb
  have ha : aheadN a x = decide (cmpN a x < 0) := rfl
  by_cases hab : aheadN a x = true
  · have hc : ¬ (0 ≤ cmpN a x) := by rw [ha] at hab; simp at hab; omega
    unfold behE behL
    rw [if_pos hab, if_pos hab]
    clear hab ha h hz hz' hs ho hlt
    generalize putE m x.1 x.2.1 x.2.2 = E at *
    generalize putL m x.1 x.2.1 x.2.2 = M at *
    generalize cmpN a x = cc at *
    have hd : decide (0 ≤ cc) = false := decide_eq_false hc
    obtain ⟨⟨a0, a1, a2⟩, a3, a4⟩ := a
    obtain ⟨⟨x0, x1, x2⟩, x3, x4⟩ := x
    unfold agN agP boxN2 at *
    simp only at *
    have HC : Hid (Calls Tryd.prog 62 _ _ _) := hC
    have HG : Hid (Grew w _) := hg
    clear hC hg
    obtain ⟨u0, u1, u2, u3, u4⟩ := hx1
    obtain ⟨v0, v1, v2, v3, v4⟩ := hx2
    simp only [Nat.zero_add] at u0 u1 u2 u3 u4 v0 v1 v2 v3 v4
    go_enter Tryd.func49, Tryd.ntmps49
    go_wp2_with (first
      | (go_at_call 62; refine HC.out.mono ?_; rintro e w1 ⟨rfl, hg1⟩; have k0 := hg1.keep v0; have k1 := hg1.keep v1; have k2 := hg1.keep v2; have k3 := hg1.keep v3; have k4 := hg1.keep v4; have hb1 := (HG.out.trans hg1).below)
      | (go_at_call 21; refine (HP.out _ hb1).mono ?_; rintro e w2 ⟨rfl, hi2, hg2⟩))
    go_ret
    exact ⟨rfl, hi2, grown_trans (Below.grownAll hb1 _) hg2⟩
  · have hc : 0 ≤ cmpN a x := by rw [ha] at hab; simp at hab; omega
    unfold behE behL
    rw [if_neg hab, if_neg hab]
    clear hab ha h hz hz' hs ho hlt HP
    generalize cmpN a x = cc at *
    have hd : decide (0 ≤ cc) = true := decide_eq_true hc
    obtain ⟨⟨a0, a1, a2⟩, a3, a4⟩ := a
    obtain ⟨⟨x0, x1, x2⟩, x3, x4⟩ := x
    unfold agN boxN2 at *
    simp only at *
    have HC : Hid (Calls Tryd.prog 62 _ _ _) := hC
    have HG : Hid (Grew w _) := hg
    clear hC hg
    obtain ⟨u0, u1, u2, u3, u4⟩ := hx1
    obtain ⟨v0, v1, v2, v3, v4⟩ := hx2
    simp only [Nat.zero_add] at u0 u1 u2 u3 u4 v0 v1 v2 v3 v4
    go_enter Tryd.func49, Tryd.ntmps49
    go_wp2_with (go_at_call 62; refine HC.out.mono ?_; rintro e w1 ⟨rfl, hg1⟩; have hb1 := (HG.out.trans hg1).below; have g := HO.out _ hb1)
    go_ret
    exact ⟨rfl, HS.out _ hb1, Below.grownAll hb1 _⟩
end Go.Proofs.YtiegilnjfadhiabDoor
