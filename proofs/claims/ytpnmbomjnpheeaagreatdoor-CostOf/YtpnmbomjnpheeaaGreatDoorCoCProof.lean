/-
 The law CostOf answers true for every slice of entries, nil too, and every code, in every memory in which the listed package-level variables read as the program lays them, and leaves what was there as it was: the row, and the card that ties the listed variables to the program's text.
-/
import Derived.Test.YtpnmbomjnpheeaaGreatDoorRows
import Derived.Test.YtpnmbomjnpheeaaGreatDoorCoC
import Derived.Test.YtpnmbomjnpheeaaGreatDoorJz12
import Derived.Test.YtpnmbomjnpheeaaGreatDoorJz11
import Derived.Test.YtpnmbomjnpheeaaGreatDoorJz3
import Derived.Test.YtpnmbomjnpheeaaGreatDoorCards
import Derived.Test.YtpnmbomjnpheeaaGreatDoorTie
import Derived.ProofKit
import Derived.LaidMore
import Derived.Lay
import Derived.Carry
import Derived.LaidLaws
import Derived.LaidHandle
import Derived.OpenShut
import Derived.Stop.Joined
import Derived.Stop.LaidErr
import Derived.Lib.LaidTab
import Derived.Lib.SmallJoins
set_option maxRecDepth 100000
set_option maxHeartbeats 16000000
namespace Go.Proofs.YtpnmbomjnpheeaaGreatDoor
open Go.Joins
open Go.ChangeMaps (open_string shut_string)
open Go.ChangeShapes Go.WideShapes Go.ChangeAt Go.WideMaps Go.WideElems Go.RowKit
theorem cof_out : laidOutB Tryz.prog = true := by kernel_rfl
theorem cof_own : ownKnob Tryz.prog.godebug = none := by kernel_rfl
theorem cof_door_met (os : Os) (args : Array Value) : laidMetH Tryz.prog Rows.costOfRow.laid ((World.doorLaid Tryz.prog 400 os).forCall (fun _ _ => 0) ⟨#[], args, []⟩).memory :=
 laidMetH_of_parts3 (fuel := 8) (laidMet_of_run' 8 (by kernel_rfl) (by kernel_rfl)) (by kernel_rfl) (by kernel_rfl)
theorem cof_pow {W : World} {rest : List (String × DataW Unit)} (h : laidMet Tryz.prog (("internal/strconv.uint64pow10", Rows.laid_internal_strconv_uint64pow10) :: rest) W) : Pow W :=
 Lib.tabIs_of_head (k := .u64) (zs := Lib.pow10Tab) Tryz.gPow Tryz.gPowType Tryz.underlying191 Tryz.underlying172 Tryz.cellsU64 Tryz.cellsPow h
theorem cof_laid {W : World} (h : laidMetH Tryz.prog Rows.costOfRow.laid W) : Pow W ∧ (∃ s, Sent W s) ∧ Handle W := by
 have h' : laidMet Tryz.prog (("math/bits.deBruijn32tab", Rows.laid_math_bits_deBruijn32tab) :: ("math/bits.deBruijn64tab", Rows.laid_math_bits_deBruijn64tab) :: ("internal/strconv.uint64pow10", Rows.laid_internal_strconv_uint64pow10) :: (sentList.map fun x => (x.2.1, errD x.2.2))) W ∧ handlesMet Tryz.prog [("errors.errorType", Rows.laid_errors_errorType)] W := h
 have h1 := laidMet.tail (laidMet.tail h'.1)
 exact ⟨cof_pow h1, sent_of_laid (laidMet.tail h1), handle_of_laid h'.2⟩
theorem cof_lifted (os : Os) (started : os.Started) (H : Type) (enc : TypeId × Value → H) :
  ReturnsInHanded {} Tryz.checked os 3 .any (fun w args => (Rows.costOfSpec.pre enc Tryz.prog Tryz.f3 [] false w args ∧ laidMetH Tryz.prog Rows.costOfRow.laid w) ∧ sizedMet enc Tryz.prog Tryz.f3 (OpenSpec.ofChange Rows.costOfSpec) false w args)
   (Rows.costOfSpec.post enc Tryz.prog Tryz.f3 false true false false) := by
 refine returnsInHanded_of_change_and (C := Tryz.checked) (X := fun w _ => laidMetH Tryz.prog Rows.costOfRow.laid w) (fun _ _ _ hh h => h.of_heap hh) cof_own started (by kernel_rfl) Tryz.func3
  (ChangeSpec.witness_shaped (enc := enc) (C := Tryz.checked) (os := os) (X := fun w _ => laidMetH Tryz.prog Rows.costOfRow.laid w) false (World.doorLaid Tryz.prog 400 os) #[.slice none 0 0, .string ByteArray.empty] 8 rfl (World.shaped_of_RefB (by kernel_rfl) (by kernel_rfl)) (by kernel_rfl) (by kernel_rfl) (by kernel_rfl) (cof_door_met os _)) ?_
 intro W base args ds gs before hval0 hW _ _ hL _
 have hval : ∀ (j : Nat) t v, Tryz.f3.params[j]? = some t → args[j]? = some v → Value.okWide Tryz.prog W .any base t v := hval0
 have hW' := hW
 obtain ⟨p, q, hA0, hV, rfl, hfz, hnd⟩ := hW
 have hA : DataW.TrodAll enc Tryz.prog W 0 (fun _ => true) true Tryz.f3.params.toList args.toList ds p := hA0
 rw [Tryz.params3] at hA hval
 obtain ⟨v0, v1, d0, d1, p0, p1, rfl, rfl, rfl, h0, h1⟩ := trodAll_two hA
 obtain ⟨rfl, rfl⟩ := trodVars_none hV
 have ho := open_ents (hval 0 22 v0 rfl rfl) h0
 obtain ⟨z, rfl, rfl, rfl, wz⟩ := open_string Tryz.underlying9 (hval 1 9 v1 rfl rfl) h1
 obtain ⟨hp, ⟨s, hs⟩, hh⟩ := cof_laid hL
 clear hA0 hval0
 simp only [List.append_nil] at hW'
 have hlt : ∀ x ∈ p0, x.block < W.heap.size := fun x hx => by simpa using hW'.lt x hx
 refine (costOf_any v0 z W s hs hh hp ho).mono fun e W' ⟨he, hb⟩ => ?_
 subst he
 refine ⟨_, rfl, _, _, _, [], p0, [], hW', ?_, ?_, ?_, hb.frame _, fun h => by cases h⟩
 ·exact trodAll_mk1 (shut_bool Tryz.underlying4 _)
 ·refine ⟨p0, [], Below.trod cof_out (by kernel_rfl) (of_decide_eq_true (by kernel_rfl)) h0 hb hlt, ?_, by simp⟩
  exact trodAll_mk1 (shut_string Tryz.underlying9 wz)
 ·rfl
theorem cof_said : Rows.CostOfSaid :=
 OpenClaim.holds_of_wide 3 Tryz.f3 rfl rfl rfl rfl rfl rfl rfl ⟨rfl, rfl, rfl, rfl, rfl⟩ rfl rfl rfl rfl rfl (by kernel_rfl) Tryz.func3 (by kernel_rfl)
  (of_decide_eq_true (by kernel_rfl)) (by unfold Func.isWrapper; rw [if_neg (of_decide_eq_false (by kernel_rfl))]; exact ⟨rfl, rfl⟩)
  (fun os started H enc _ => cof_lifted os started H enc)
theorem cof_plain (f : FuncId) (fn : Func) (hf : Tryz.pinned.checked.prog.funcNamed "tithebarn/tithebarnlaw2.CostOf" = some f) (hfn : Tryz.pinned.checked.prog.funcs[f]? = some fn) :
  true = Tryz.pinned.checked.prog.looks [] ∧ ∀ (j : Nat) t, fn.params[j]? = some t → Tryz.pinned.checked.prog.wantsStandIn t = false := by
 obtain rfl : f = 3 := Option.some.inj ((show Tryz.prog.funcNamed "tithebarn/tithebarnlaw2.CostOf" = some 3 by kernel_rfl).symm.trans hf) |>.symm
 obtain rfl : fn = Tryz.f3 := (Option.some.inj (Tryz.func3.symm.trans hfn)).symm
 refine ⟨by kernel_rfl, fun j t ht => ?_⟩
 rw [Tryz.params3] at ht
 have hm : t ∈ [22, 9] := by simpa using Array.mem_of_getElem? ht
 have hall : ([22, 9].all fun u => !Tryz.prog.wantsStandIn u) = true := by kernel_rfl
 exact (show Tryz.prog.wantsStandIn t = false by simpa using List.all_eq_true.1 hall t hm)
theorem costOf_card : Rows.CostOfCardSaid :=
 Claim7.holds_tied_plain_at .later [] _ _ _ _ cof_said (fun _ h => by cases h) (by kernel_rfl) (fun _ h => by cases h) costOf_row_tie rfl ⟨rfl, rfl⟩ (by kernel_rfl) rfl cof_plain (by kernel_rfl)
#print axioms costOf_card
end Go.Proofs.YtpnmbomjnpheeaaGreatDoor
