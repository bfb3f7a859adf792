/-
  The closed fact of the laws on places: it answers true in every world that holds ErrName, ErrBound and strconv's table of powers as the program lays them.
-/
import Derived.Test.YtpigcjbjjnaogaaDoorPSteps
namespace Go.Proofs.YtpigcjbjjnaogaaDoor
open Go.RowKit Go.Lib Go.Sort

def wa : Pl := (⟨#[97]⟩, 2, 7)
def wb : Pl := (⟨#[97]⟩, 2, 3)
theorem wa_ahead : aheadP wa wb = true := by decide
theorem wa_steps : stepsP wa wb = 4 := by decide
theorem wa_text : ptext wa = ⟨#[97, 45, 50, 45, 55]⟩ := by
  have e1 : decDigits 2 = [50] := by rw [decDigits_one (by decide)]; rfl
  have e2 : decDigits 7 = [55] := by rw [decDigits_one (by decide)]; rfl
  unfold ptext
  rw [if_pos (by decide)]
  show ((((⟨#[97]⟩ ++ ⟨#[45]⟩) ++ ⟨(decDigits 2).toArray⟩) ++ ⟨#[45]⟩) ++ ⟨(decDigits 7).toArray⟩ : ByteArray) = _
  rw [e1, e2]
  rfl
set_option maxHeartbeats 1000000 in
theorem walked_any (w : World) (s : Nat → Addr) (hs : Two w s) (hp : Pow w) :
    Calls Tryd.prog 22 #[] w fun e w' => e = .returned (.bool true) ∧ Below w.heap.size w w' := by
  have hB := boxTwo_below w wa wb
  have hb1 := boxTwo_first w wa wb
  have hb2 := boxTwo_second w wa wb
  have h1 := ahead_any wa wb (boxTwo w wa wb)
  have h2 := fun w1 (hb : Below w.heap.size w w1) => ptext_any wa w1 s (by decide) (hs.below hb) (hp.below hb)
  have h3 := fun w1 (hb : Below w.heap.size w w1) => steps_any wa wb w1 s (by decide) (by decide) (hs.below hb)
  rw [wa_ahead] at h1
  rw [wa_text] at h2
  rw [wa_steps] at h3
  unfold agP boxTwo wa wb at *
  simp only at *
  have H1 : Hid (Calls Tryd.prog 30 _ _ _) := h1
  have HB : Hid (Below _ _ _) := hB
  clear h1 hs hp hB
  go_enter Tryd.func22, Tryd.ntmps22
  go_wp2_with (first
    | (go_at_call 30; refine H1.out.mono ?_; rintro e w1 ⟨rfl, hb⟩; have hbw : Below w.heap.size w w1 := HB.out.trans (hb.mono HB.out.size); have k1 := hb1.below hb; have k2 := hb2.below hb; obtain ⟨c0, c1, c2⟩ := k1; obtain ⟨d0, d1, d2⟩ := k2)
    | (go_at_call 27; refine (h2 _ hbw).mono ?_; rintro e w2 ⟨rfl, hb'⟩; have hbw2 : Below w.heap.size w w2 := hbw.trans (hb'.mono hbw.size); obtain ⟨c0', c1', c2'⟩ := (hb1.below hb).below hb'; obtain ⟨d0', d1', d2'⟩ := (hb2.below hb).below hb')
    | (go_at_call 31; refine (h3 _ hbw2).mono ?_; rintro e w3 ⟨rfl, hb''⟩))
  go_ret
  exact ⟨rfl, hbw2.trans (hb''.mono hbw2.size)⟩
end Go.Proofs.YtpigcjbjjnaogaaDoor
