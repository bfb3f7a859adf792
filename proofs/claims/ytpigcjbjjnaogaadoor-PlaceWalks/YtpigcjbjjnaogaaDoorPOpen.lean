/-
  A place among a row's data, down and up again.
-/
import Derived.Test.YtpigcjbjjnaogaaDoorPCmp
import Derived.ProofKit
import Derived.OpenShut
import Derived.Stop.Joined
import Derived.Lib.SmallJoins
namespace Go.Proofs.YtpigcjbjjnaogaaDoor
open Go.Joins
open Go.ChangeMaps (open_string shut_string)
open Go.ChangeShapes Go.WideShapes Go.ChangeAt Go.WideMaps Go.WideElems Go.RowKit

theorem Tryd.cellsPlace : Tryd.prog.cellsOf 47 = 3 := by kernel_rfl
/-- The datum of a place. -/
abbrev datP {H : Type} (a : ByteArray) (r b : Int) : DataW H := .agg [.lit (.string a.data.toList), .lit (.int .i64 r), .lit (.int .i64 b)]
set_option maxRecDepth 100000 in
theorem open_place {H : Type} {enc : TypeId × Value → H} {W : World} {base b0 : Nat} {v : Value} {d : DataW H} {p : List MemPlace} {sp : Nat → Bool} {hd : Bool} (hv : Value.okWide Tryd.prog W .any b0 47 v) (h : DataW.Trod enc Tryd.prog W base sp hd 47 v d p) :
    ∃ a r b, v = agP (a, r, b) ∧ d = datP a r b ∧ p = [] ∧ a.size ≤ maxLen ∧ (Lit.int .i64 r).wf = true ∧ (Lit.int .i64 b).wf = true := by
  obtain ⟨c0, c1, c2, y0, y1, y2, m, rfl, rfl, rfl, hy0, hy1, hy2⟩ := open_agg3 Tryd.underlying47 (by kernel_rfl) Tryd.cellsPlace hv h
  obtain ⟨a, e0, rfl, wa⟩ := DataW.trod_string Tryd.underlying9 hy0
  obtain ⟨r, e1, rfl, wr⟩ := DataW.trod_int Tryd.underlying3 hy1
  obtain ⟨b, e2, rfl, wb⟩ := DataW.trod_int Tryd.underlying3 hy2
  simp at e0 e1 e2
  subst e0 e1 e2
  exact ⟨a, r, b, rfl, rfl, rfl, wa, wr, wb⟩
set_option maxRecDepth 100000 in
theorem shut_place {H : Type} {enc : TypeId × Value → H} {W : World} {base : Nat} {sp : Nat → Bool} {hd : Bool} {a : ByteArray} {r b : Int} (wa : a.size ≤ maxLen) (wr : (Lit.int .i64 r).wf = true) (wb : (Lit.int .i64 b).wf = true) :
    DataW.Trod enc Tryd.prog W base sp hd 47 (agP (a, r, b)) (datP a r b) [] :=
  shut_agg3 (y0 := (.lit (.string a.data.toList), [])) (y1 := (.lit (.int .i64 r), [])) (y2 := (.lit (.int .i64 b), [])) Tryd.underlying47 (by kernel_rfl) Tryd.cellsPlace ⟨1, by simp [DataW.trod, Tryd.underlying9, wa]⟩ ⟨1, by simp [DataW.trod, Tryd.underlying3, wr]⟩ ⟨1, by simp [DataW.trod, Tryd.underlying3, wb]⟩
end Go.Proofs.YtpigcjbjjnaogaaDoor
