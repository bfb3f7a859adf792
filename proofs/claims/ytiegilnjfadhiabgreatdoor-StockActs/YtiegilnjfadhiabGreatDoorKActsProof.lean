/-
  The law StockActs answers true for all acts, places and lots, in every memory in which the listed package-level variables read as the program lays them, and leaves what was there as it was: the row, and the card that ties the listed variables to the program's text.
-/
import Derived.Test.YtiegilnjfadhiabGreatDoorRows
import Derived.Test.YtiegilnjfadhiabGreatDoorKOpn
import Derived.Test.YtiegilnjfadhiabGreatDoorKActsIn
import Derived.Test.YtiegilnjfadhiabGreatDoorCards
import Derived.Test.YtiegilnjfadhiabGreatDoorTie
import Derived.ProofKit
import Derived.LaidMore
import Derived.Carry
import Derived.LaidLaws
import Derived.LaidHandle
import Derived.OpenShut
import Derived.Stop.Joined
import Derived.Stop.LaidErr
import Derived.Lib.LaidTab
import Derived.Lib.SmallJoins
namespace Go.Proofs.YtiegilnjfadhiabGreatDoor
open Go.Joins
open Go.ChangeMaps (open_string shut_string)
open Go.ChangeShapes Go.WideShapes Go.ChangeAt Go.WideMaps Go.WideElems Go.RowKit

theorem kact_out : laidOutB Tryz.prog = true := by kernel_rfl
theorem kact_own : ownKnob Tryz.prog.godebug = none := by kernel_rfl
theorem kact_door_met (os : Os) (args : Array Value) : laidMetH Tryz.prog Rows.stockActsRow.laid ((World.doorLaid Tryz.prog 400 os).forCall (fun _ _ => 0) ⟨#[], args, []⟩).memory :=
  laidMetH_of_parts3 (fuel := 8) (laidMet_of_run' 8 (by kernel_rfl) (by kernel_rfl)) (by kernel_rfl) (by kernel_rfl)

theorem kact_laid {W : World} (h : laidMetH Tryz.prog Rows.stockActsRow.laid W) : Pow W ∧ (∃ s, Sent W s) ∧ Handle W := by
  have h' : laidMet Tryz.prog (("math/bits.deBruijn32tab", Rows.laid_math_bits_deBruijn32tab) :: ("math/bits.deBruijn64tab", Rows.laid_math_bits_deBruijn64tab) :: ("internal/strconv.uint64pow10", Rows.laid_internal_strconv_uint64pow10) :: (sentList.map fun x => (x.2.1, errD x.2.2))) W ∧ handlesMet Tryz.prog [("errors.errorType", Rows.laid_errors_errorType)] W := h
  have h1 := laidMet.tail (laidMet.tail h'.1)
  exact ⟨pow_of_laid h1, sent_of_laid (laidMet.tail h1), handle_of_laid h'.2⟩

set_option maxRecDepth 100000 in
theorem kact_lifted (os : Os) (started : os.Started) (H : Type) (enc : TypeId × Value → H) :
    ReturnsInHanded {} Tryz.checked os 4 .any (fun w args => (Rows.stockActsSpec.pre enc Tryz.prog Tryz.f4 [] false w args ∧ laidMetH Tryz.prog Rows.stockActsRow.laid w) ∧ sizedMet enc Tryz.prog Tryz.f4 (OpenSpec.ofChange Rows.stockActsSpec) false w args)
      (Rows.stockActsSpec.post enc Tryz.prog Tryz.f4 false true false false) := by
  refine returnsInHanded_of_change_and (C := Tryz.checked) (X := fun w _ => laidMetH Tryz.prog Rows.stockActsRow.laid w) (fun _ _ _ hh h => h.of_heap hh) kact_own started (by kernel_rfl) Tryz.func4
    (ChangeSpec.witness_shaped (enc := enc) (C := Tryz.checked) (os := os) (X := fun w _ => laidMetH Tryz.prog Rows.stockActsRow.laid w) false (World.doorLaid Tryz.prog 400 os) #[.slice none 0 0, .agg #[.string ByteArray.empty, .int .i64 0, .int .i64 0], .string ByteArray.empty] 8 rfl (World.shaped_of_RefB (by kernel_rfl) (by kernel_rfl)) (by kernel_rfl) (by kernel_rfl) (by kernel_rfl) (kact_door_met os _)) ?_
  intro W base args ds gs before hval0 hW _ _ hL _
  have hval : ∀ (j : Nat) t v, Tryz.f4.params[j]? = some t → args[j]? = some v → Value.okWide Tryz.prog W .any base t v := hval0
  have hW' := hW
  obtain ⟨p, q, hA0, hV, rfl, hfz, hnd⟩ := hW
  have hA : DataW.TrodAll enc Tryz.prog W 0 (fun _ => true) true Tryz.f4.params.toList args.toList ds p := hA0
  rw [Tryz.params4] at hA hval
  obtain ⟨v0, v1, v2, d0, d1, d2, p0, p1, p2, rfl, rfl, rfl, h0, h1, h2⟩ := trodAll_three hA
  obtain ⟨rfl, rfl⟩ := trodVars_none hV
  obtain ⟨pp, d, cp, hdm, rfl, hrow⟩ := open_acts (hval 0 39 v0 rfl rfl) h0
  obtain ⟨a, r, b, rfl, rfl, rfl, wa, wr, wb⟩ := open_place (hval 1 41 v1 rfl rfl) h1
  obtain ⟨z, rfl, rfl, rfl, wz⟩ := open_string Tryz.underlying9 (hval 2 9 v2 rfl rfl) h2
  obtain ⟨hp, ⟨s, hs⟩, hh⟩ := kact_laid hL
  have hO : Old12 W s := ⟨hs, hh, hp⟩
  clear hA0 hval0
  simp only [List.append_nil] at hW'
  have hlt : ∀ x ∈ p0, x.block < W.heap.size := fun x hx => by simpa using hW'.lt x hx
  have walk : Calls Tryz.prog 4 #[.slice pp d.length cp, agP (a, r, b), .string z] W fun e w' => e = .returned (.bool true) ∧ Below W.heap.size W w' := by
    by_cases h : 60 < d.length ∨ 30 < z.size ∨ 30 < a.size
    · exact acts_long pp d.length cp (a, r, b) z W s hO.old6 hdm wa wz h
    · exact acts_in pp d cp (a, r, b) z W s hO (by omega) hrow ⟨wa, wr, wb, wz⟩ (by omega) (by simp only; omega)
  refine walk.mono fun e W' ⟨he, hb⟩ => ?_
  subst he
  refine ⟨_, rfl, _, _, _, [], p0, [], hW', ?_, ?_, ?_, hb.frame _, fun h => by cases h⟩
  · exact trodAll_mk1 (shut_bool Tryz.underlying4 _)
  · refine ⟨p0, [], Below.trod kact_out (by kernel_rfl) (of_decide_eq_true (by kernel_rfl)) h0 hb hlt, ?_, by simp⟩
    exact trodAll_mk2 (shut_place wa wr wb) (shut_string Tryz.underlying9 wz)
  · rfl

theorem kact_said : Rows.StockActsSaid :=
  OpenClaim.holds_of_wide 4 Tryz.f4 rfl rfl rfl rfl rfl rfl rfl ⟨rfl, rfl, rfl, rfl, rfl⟩ rfl rfl rfl rfl rfl (by kernel_rfl) Tryz.func4 (by kernel_rfl)
    (of_decide_eq_true (by kernel_rfl)) (by unfold Func.isWrapper; rw [if_neg (of_decide_eq_false (by kernel_rfl))]; exact ⟨rfl, rfl⟩)
    (fun os started H enc _ => kact_lifted os started H enc)

theorem kact_plain (f : FuncId) (fn : Func) (hf : Tryz.pinned.checked.prog.funcNamed "tithebarn/tithebarnlaw1.StockActs" = some f) (hfn : Tryz.pinned.checked.prog.funcs[f]? = some fn) :
    true = Tryz.pinned.checked.prog.looks [] ∧ ∀ (j : Nat) t, fn.params[j]? = some t → Tryz.pinned.checked.prog.wantsStandIn t = false := by
  obtain rfl : f = 4 := Option.some.inj ((show Tryz.prog.funcNamed "tithebarn/tithebarnlaw1.StockActs" = some 4 by kernel_rfl).symm.trans hf) |>.symm
  obtain rfl : fn = Tryz.f4 := (Option.some.inj (Tryz.func4.symm.trans hfn)).symm
  refine ⟨by kernel_rfl, fun j t ht => ?_⟩
  rw [Tryz.params4] at ht
  have hm : t ∈ [39, 41, 9] := by simpa using Array.mem_of_getElem? ht
  have hall : ([39, 41, 9].all fun u => !Tryz.prog.wantsStandIn u) = true := by kernel_rfl
  exact (show Tryz.prog.wantsStandIn t = false by simpa using List.all_eq_true.1 hall t hm)

theorem kact_card : Rows.StockActsCardSaid :=
  Claim7.holds_tied_plain_at .later [] _ _ _ _ kact_said (fun _ h => by cases h) (by kernel_rfl) (fun _ h => by cases h) stockActs_row_tie rfl ⟨rfl, rfl⟩ (by kernel_rfl) rfl kact_plain (by kernel_rfl)
#print axioms kact_card
end Go.Proofs.YtiegilnjfadhiabGreatDoor
