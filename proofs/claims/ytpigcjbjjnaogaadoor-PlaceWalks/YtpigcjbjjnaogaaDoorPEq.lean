/-
  The language's comparison of two places, and the number of an error as coded tells it.
-/
import Derived.Test.YtpigcjbjjnaogaaDoorPRefRead
import Derived.Laws.StructEq
namespace Go.Proofs.YtpigcjbjjnaogaaDoor
open Go.RowKit Go.Lib Go.Sort

theorem Tryd.guardP : Tryd.prog.eqGuardType Tryd.prog.depth 47 = false := by kernel_rfl
theorem eqP_run (a a' : ByteArray) (r b r' b' : Int) (w : World) : (Op.equalIn 10000 47 (.agg #[.string a, .int .i64 r, .int .i64 b]) (.agg #[.string a', .int .i64 r', .int .i64 b'])).run Tryd.prog w = .ok (decide ((a, r, b) = (a', r', b'))) w := by
  have u3 := Tryd.underlying3
  have a3 := Tryd.isAgg3
  have z3 := Tryd.sizeOf3
  have u9 := Tryd.underlying9
  have a9 := Tryd.isAgg9
  have z9 := Tryd.sizeOf9
  have hS : Tryd.prog.underlying 47 = some (.struct (Tryd.prog.fieldsOf 47)) := by kernel_rfl
  have hp : Tryd.prog.stoodInHeld 47 = false := by kernel_rfl
  rw [show (10000 : Nat) = 9999 + 1 from rfl, run_equalIn_agg w 9999 47 _ _ hS hp]
  simp only [Program.fieldsOf, Tryd.underlying47]
  have e3 := same_eq a a'
  go_simp
  by_cases h1 : a = a' <;> by_cases h2 : r = r' <;> by_cases h3 : b = b' <;> simp [h1, h2, h3]
theorem codedP_any (s : Nat → Addr) (code : Nat) (hc : code ≤ 12) (n : Int) (w : World) (hs : Sent w s) (hh : Handle w) :
    Calls Tryd.prog 11 #[errP s code, .int .i64 n] w fun e w' => e = .returned (.bool (decide ((code : Int) = n))) ∧ Below w.heap.size w w' := by
  rcases code with _ | k
  · rw [errP_zero]
    refine (coded_nil n w).mono ?_
    rintro e w' ⟨rfl, rfl⟩
    exact ⟨rfl, Below.refl _ _⟩
  · rw [errP_pos s (by omega)]
    refine (coded_of _ _ n w _ (code_sent k (by omega) w s hs hh)).mono ?_
    rintro e w' ⟨rfl, hb⟩
    exact ⟨rfl, hb⟩
end Go.Proofs.YtpigcjbjjnaogaaDoor
