/-
  The law PlaceWay answers true for all places a, b and c, in every memory in which the listed package-level variables read as the program lays them, and leaves what was there as it was: the row, and the card that ties the listed variables to the program's text.
-/
import Derived.Test.YtpigcjbjjnaogaaDoorRows
import Derived.Test.YtpigcjbjjnaogaaDoorPOpen
import Derived.Test.YtpigcjbjjnaogaaDoorPWayIn
import Derived.Test.YtpigcjbjjnaogaaDoorCards
import Derived.Test.YtpigcjbjjnaogaaDoorTie
import Derived.ProofKit
import Derived.LaidMore
import Derived.LaidLaws
import Derived.LaidHandle
import Derived.OpenShut
import Derived.Stop.Joined
import Derived.Stop.LaidErr
import Derived.Lib.LaidTab
import Derived.Lib.SmallJoins
import Derived.Test.YtpigcjbjjnaogaaDoorPLaid
namespace Go.Proofs.YtpigcjbjjnaogaaDoor
open Go.Joins
open Go.ChangeMaps (open_string shut_string)
open Go.ChangeShapes Go.WideShapes Go.ChangeAt Go.WideMaps Go.WideElems Go.RowKit

theorem pway_own : ownKnob Tryd.prog.godebug = none := by kernel_rfl
theorem pway_door_met (os : Os) (args : Array Value) : laidMetH Tryd.prog Rows.placeWayRow.laid ((World.doorLaid Tryd.prog 400 os).forCall (fun _ _ => 0) ⟨#[], args, []⟩).memory :=
  laidMetH_of_parts3 (fuel := 8) (laidMet_of_run' 8 (by kernel_rfl) (by kernel_rfl)) (by kernel_rfl) (by kernel_rfl)

theorem pway_laid {W : World} (h : laidMetH Tryd.prog Rows.placeWayRow.laid W) : Pow W ∧ ∃ s, Two W s := by
  have h' : laidMet Tryd.prog (("math/bits.deBruijn32tab", Rows.laid_math_bits_deBruijn32tab) :: ("math/bits.deBruijn64tab", Rows.laid_math_bits_deBruijn64tab) :: ("internal/strconv.uint64pow10", Rows.laid_internal_strconv_uint64pow10) :: (twoList.map fun x => (x.2.1, errD x.2.2))) W := h
  have h1 := laidMet.tail (laidMet.tail h')
  exact ⟨pow_of_laid h1, two_of_laid (laidMet.tail h1)⟩

set_option maxRecDepth 100000 in
theorem pway_lifted (os : Os) (started : os.Started) (H : Type) (enc : TypeId × Value → H) :
    ReturnsInHanded {} Tryd.checked os 7 .any (fun w args => (Rows.placeWaySpec.pre enc Tryd.prog Tryd.f7 [] false w args ∧ laidMetH Tryd.prog Rows.placeWayRow.laid w) ∧ sizedMet enc Tryd.prog Tryd.f7 (OpenSpec.ofChange Rows.placeWaySpec) false w args)
      (Rows.placeWaySpec.post enc Tryd.prog Tryd.f7 false true false false) := by
  refine returnsInHanded_of_change_and (C := Tryd.checked) (X := fun w _ => laidMetH Tryd.prog Rows.placeWayRow.laid w) (fun _ _ _ hh h => h.of_heap hh) pway_own started (by kernel_rfl) Tryd.func7
    (ChangeSpec.witness_shaped (enc := enc) (C := Tryd.checked) (os := os) (X := fun w _ => laidMetH Tryd.prog Rows.placeWayRow.laid w) false (World.doorLaid Tryd.prog 400 os) #[.agg #[.string ByteArray.empty, .int .i64 0, .int .i64 0], .agg #[.string ByteArray.empty, .int .i64 0, .int .i64 0], .agg #[.string ByteArray.empty, .int .i64 0, .int .i64 0]] 8 rfl (World.shaped_of_RefB (by kernel_rfl) (by kernel_rfl)) (by kernel_rfl) (by kernel_rfl) (by kernel_rfl) (pway_door_met os _)) ?_
  intro W base args ds gs before hval0 hW _ _ hL _
  have hval : ∀ (j : Nat) t v, Tryd.f7.params[j]? = some t → args[j]? = some v → Value.okWide Tryd.prog W .any base t v := hval0
  have hW' := hW
  obtain ⟨p, q, hA0, hV, rfl, hfz, hnd⟩ := hW
  have hA : DataW.TrodAll enc Tryd.prog W 0 (fun _ => true) true Tryd.f7.params.toList args.toList ds p := hA0
  rw [Tryd.params7] at hA hval
  obtain ⟨v0, v1, v2, d0, d1, d2, p0, p1, p2, rfl, rfl, rfl, h0, h1, h2⟩ := trodAll_three hA
  obtain ⟨rfl, rfl⟩ := trodVars_none hV
  obtain ⟨a, r, b, rfl, rfl, rfl, wa, wr, wb⟩ := open_place (hval 0 47 v0 rfl rfl) h0
  obtain ⟨a', r', b', rfl, rfl, rfl, wa', wr', wb'⟩ := open_place (hval 1 47 v1 rfl rfl) h1
  obtain ⟨a'', r'', b'', rfl, rfl, rfl, wa'', wr'', wb''⟩ := open_place (hval 2 47 v2 rfl rfl) h2
  obtain ⟨hp, s, hs⟩ := pway_laid hL
  clear hA0 hval0
  simp only [List.append_nil] at hW'
  have walk : Calls Tryd.prog 7 #[agP (a, r, b), agP (a', r', b'), agP (a'', r'', b'')] W fun e w' => e = .returned (.bool true) ∧ Below W.heap.size W w' := way_any (a, r, b) (a', r', b') (a'', r'', b'') W s hs hp wa wa' wa''
  refine walk.mono fun e W' ⟨he, hb⟩ => ?_
  subst he
  refine ⟨_, rfl, _, _, _, [], [], [], hW', ?_, ?_, ?_, hb.frame _, fun h => by cases h⟩
  · exact trodAll_mk1 (shut_bool Tryd.underlying4 _)
  · exact trodAll_mk3 (shut_place wa wr wb) (shut_place wa' wr' wb') (shut_place wa'' wr'' wb'')
  · rfl

theorem pway_said : Rows.PlaceWaySaid :=
  OpenClaim.holds_of_wide 7 Tryd.f7 rfl rfl rfl rfl rfl rfl rfl ⟨rfl, rfl, rfl, rfl, rfl⟩ rfl rfl rfl rfl rfl (by kernel_rfl) Tryd.func7 (by kernel_rfl)
    (of_decide_eq_true (by kernel_rfl)) (by unfold Func.isWrapper; rw [if_neg (of_decide_eq_false (by kernel_rfl))]; exact ⟨rfl, rfl⟩)
    (fun os started H enc _ => pway_lifted os started H enc)

theorem pway_plain (f : FuncId) (fn : Func) (hf : Tryd.pinned.checked.prog.funcNamed "tithebarn/tithebarnlaw1.PlaceWay" = some f) (hfn : Tryd.pinned.checked.prog.funcs[f]? = some fn) :
    true = Tryd.pinned.checked.prog.looks [] ∧ ∀ (j : Nat) t, fn.params[j]? = some t → Tryd.pinned.checked.prog.wantsStandIn t = false := by
  obtain rfl : f = 7 := Option.some.inj ((show Tryd.prog.funcNamed "tithebarn/tithebarnlaw1.PlaceWay" = some 7 by kernel_rfl).symm.trans hf) |>.symm
  obtain rfl : fn = Tryd.f7 := (Option.some.inj (Tryd.func7.symm.trans hfn)).symm
  refine ⟨by kernel_rfl, fun j t ht => ?_⟩
  rw [Tryd.params7] at ht
  have hm : t ∈ [47, 47, 47] := by simpa using Array.mem_of_getElem? ht
  have hall : ([47, 47, 47].all fun u => !Tryd.prog.wantsStandIn u) = true := by kernel_rfl
  exact (show Tryd.prog.wantsStandIn t = false by simpa using List.all_eq_true.1 hall t hm)

theorem pway_card : Rows.PlaceWayCardSaid :=
  Claim7.holds_tied_plain_at .later [] _ _ _ _ pway_said (fun _ h => by cases h) (by kernel_rfl) (fun _ h => by cases h) placeWay_row_tie rfl ⟨rfl, rfl⟩ (by kernel_rfl) rfl pway_plain (by kernel_rfl)
#print axioms pway_card
end Go.Proofs.YtpigcjbjjnaogaaDoor
