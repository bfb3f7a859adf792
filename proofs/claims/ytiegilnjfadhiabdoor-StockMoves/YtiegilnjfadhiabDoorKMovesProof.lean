/-
  The law StockMoves answers true for all acts, places, lots and numbers, in every memory in which the listed package-level variables read as the program lays them, and leaves what was there as it was: the row, and the card that ties the listed variables to the program's text.
-/
import Derived.Test.YtiegilnjfadhiabDoorRows
import Derived.Test.YtiegilnjfadhiabDoorKOpen
import Derived.Test.YtiegilnjfadhiabDoorKMoves
import Derived.Test.YtiegilnjfadhiabDoorCards
import Derived.Test.YtiegilnjfadhiabDoorTie
import Derived.ProofKit
import Derived.LaidMore
import Derived.Lay
import Derived.Carry
import Derived.LaidLaws
import Derived.LaidHandle
import Derived.OpenShut
import Derived.Stop.Joined
import Derived.Stop.LaidErr
import Derived.Lib.LaidTab
import Derived.Lib.SmallJoins
import Derived.Test.YtiegilnjfadhiabDoorPLaid
namespace Go.Proofs.YtiegilnjfadhiabDoor
open Go.Joins
open Go.ChangeMaps (open_string shut_string)
open Go.ChangeShapes Go.WideShapes Go.ChangeAt Go.WideMaps Go.WideElems Go.RowKit

theorem kmove_out : laidOutB Tryd.prog = true := by kernel_rfl
theorem kmove_own : ownKnob Tryd.prog.godebug = none := by kernel_rfl
/-- The great table that the witness lays by itself. -/
def kmove_great : List (String × DataW Unit) := (Rows.stockMovesRow.laid.filter fun x => x.2.handleName?.isNone).filter fun x => ["unicode/utf8.first"].contains x.1
noncomputable def kmove_world (os : Os) : World := (World.doorLaid Tryd.prog 400 os).layVars Tryd.prog kmove_great
theorem kmove_world_os (os : Os) : (kmove_world os).os = os := (World.layVars_os _ _ _).trans rfl
theorem kmove_door_met (os : Os) (args : Array Value) : laidMetH Tryd.prog Rows.stockMovesRow.laid ((kmove_world os).forCall (fun _ _ => 0) ⟨#[], args, []⟩).memory :=
  laidMetH_of_parts3 (fuel := 8)
    (laidMet_layVars (w0 := World.doorLaid Tryd.prog 400 os) ["unicode/utf8.first"] ((List.range (World.doorLaid Tryd.prog 400 os).heap.size).filter (· != 15)) (by simp [World.memory, World.forCall, Input.heap]; rfl) (by kernel_rfl) (by kernel_rfl)
      (LaidIn.of_run _ 8 (by kernel_rfl) (by kernel_rfl) (by kernel_rfl) (by kernel_rfl))) (by kernel_rfl) (by kernel_rfl)
theorem kmove_laid {W : World} (h : laidMetH Tryd.prog Rows.stockMovesRow.laid W) : ∃ s, Old6 W s := by
  have h' : laidMet Tryd.prog (("math/bits.deBruijn32tab", Rows.laid_math_bits_deBruijn32tab) :: ("math/bits.deBruijn64tab", Rows.laid_math_bits_deBruijn64tab) :: ("internal/strconv.uint64pow10", Rows.laid_internal_strconv_uint64pow10) :: ("unicode/utf8.acceptRanges", Rows.laid_unicode_utf8_acceptRanges) :: ((sevenList.map fun x => (x.2.1, errD x.2.2)) ++ [("unicode/utf8.first", Rows.laid_unicode_utf8_first)])) W := h
  have h1 := laidMet.tail (laidMet.tail h')
  obtain ⟨s, hs⟩ := seven_of_laid (laidMet.tail (laidMet_perm (laidMet.tail (laidMet.tail h1)) (List.perm_append_singleton _ _)))
  exact ⟨s, hs, pow_of_laid h1⟩

set_option maxRecDepth 100000 in
theorem kmove_lifted (os : Os) (started : os.Started) (H : Type) (enc : TypeId × Value → H) :
    ReturnsInHanded {} Tryd.checked os 5 .any (fun w args => (Rows.stockMovesSpec.pre enc Tryd.prog Tryd.f5 [] false w args ∧ laidMetH Tryd.prog Rows.stockMovesRow.laid w) ∧ sizedMet enc Tryd.prog Tryd.f5 (OpenSpec.ofChange Rows.stockMovesSpec) false w args)
      (Rows.stockMovesSpec.post enc Tryd.prog Tryd.f5 false true false false) := by
  refine returnsInHanded_of_change_and (C := Tryd.checked) (X := fun w _ => laidMetH Tryd.prog Rows.stockMovesRow.laid w) (fun _ _ _ hh h => h.of_heap hh) kmove_own started (by kernel_rfl) Tryd.func5
    (ChangeSpec.witness_shaped (enc := enc) (C := Tryd.checked) (os := os) (X := fun w _ => laidMetH Tryd.prog Rows.stockMovesRow.laid w) false (kmove_world os) #[.slice none 0 0, .agg #[.string ByteArray.empty, .int .i64 0, .int .i64 0], .agg #[.string ByteArray.empty, .int .i64 0, .int .i64 0], .string ByteArray.empty, .int .i64 0] 8 (kmove_world_os os) (World.shaped_of_ZipB (by kernel_rfl) (by kernel_rfl)) (by kernel_rfl) (by kernel_rfl) (by kernel_rfl) (kmove_door_met os _)) ?_
  intro W base args ds gs before hval0 hW _ _ hL _
  have hval : ∀ (j : Nat) t v, Tryd.f5.params[j]? = some t → args[j]? = some v → Value.okWide Tryd.prog W .any base t v := hval0
  have hW' := hW
  obtain ⟨p, q, hA0, hV, rfl, hfz, hnd⟩ := hW
  have hA : DataW.TrodAll enc Tryd.prog W 0 (fun _ => true) true Tryd.f5.params.toList args.toList ds p := hA0
  rw [Tryd.params5] at hA hval
  obtain ⟨v0, v1, v2, v3, v4, d0, d1, d2, d3, d4, p0, p1, p2, p3, p4, rfl, rfl, rfl, h0, h1, h2, h3, h4⟩ := trodAll_five hA
  obtain ⟨rfl, rfl⟩ := trodVars_none hV
  obtain ⟨pp, d, cp, hdm, rfl, hrow⟩ := open_acts (hval 0 43 v0 rfl rfl) h0
  obtain ⟨a, r, b, rfl, rfl, rfl, wa, wr, wb⟩ := open_place (hval 1 45 v1 rfl rfl) h1
  obtain ⟨a', r', b', rfl, rfl, rfl, wa', wr', wb'⟩ := open_place (hval 2 45 v2 rfl rfl) h2
  obtain ⟨z, rfl, rfl, rfl, wz⟩ := open_string Tryd.underlying9 (hval 3 9 v3 rfl rfl) h3
  obtain ⟨n, rfl, rfl, rfl, wn⟩ := open_int Tryd.underlying3 (hval 4 3 v4 rfl rfl) h4
  obtain ⟨s, hs⟩ := kmove_laid hL
  clear hA0 hval0
  simp only [List.append_nil] at hW'
  have hlt : ∀ x ∈ p0, x.block < W.heap.size := fun x hx => by simpa using hW'.lt x hx
  have walk : Calls Tryd.prog 5 #[.slice pp d.length cp, agP (a, r, b), agP (a', r', b'), .string z, .int .i64 n] W fun e w' => e = .returned (.bool true) ∧ Below W.heap.size W w' := by
    by_cases h : d.length ≤ 40
    · exact moves_in pp d cp (a, r, b) (a', r', b') z n W s hs h hrow ⟨wa, wr, wb, wz⟩ ⟨wa', wr', wb', wz⟩
    · exact moves_long pp d.length cp (a, r, b) (a', r', b') z n W s hs (by omega) hdm
  refine walk.mono fun e W' ⟨he, hb⟩ => ?_
  subst he
  refine ⟨_, rfl, _, _, _, [], p0, [], hW', ?_, ?_, ?_, hb.frame _, fun h => by cases h⟩
  · exact trodAll_mk1 (shut_bool Tryd.underlying4 _)
  · refine ⟨p0, [], Below.trod kmove_out (by kernel_rfl) (of_decide_eq_true (by kernel_rfl)) h0 hb hlt, ?_, by simp⟩
    exact trodAll_mk4 (shut_place wa wr wb) (shut_place wa' wr' wb') (shut_string Tryd.underlying9 wz) (shut_int Tryd.underlying3 wn)
  · rfl

theorem kmove_said : Rows.StockMovesSaid :=
  OpenClaim.holds_of_wide 5 Tryd.f5 rfl rfl rfl rfl rfl rfl rfl ⟨rfl, rfl, rfl, rfl, rfl⟩ rfl rfl rfl rfl rfl (by kernel_rfl) Tryd.func5 (by kernel_rfl)
    (of_decide_eq_true (by kernel_rfl)) (by unfold Func.isWrapper; rw [if_neg (of_decide_eq_false (by kernel_rfl))]; exact ⟨rfl, rfl⟩)
    (fun os started H enc _ => kmove_lifted os started H enc)

theorem kmove_plain (f : FuncId) (fn : Func) (hf : Tryd.pinned.checked.prog.funcNamed "tithebarn/tithebarnlaw1.StockMoves" = some f) (hfn : Tryd.pinned.checked.prog.funcs[f]? = some fn) :
    true = Tryd.pinned.checked.prog.looks [] ∧ ∀ (j : Nat) t, fn.params[j]? = some t → Tryd.pinned.checked.prog.wantsStandIn t = false := by
  obtain rfl : f = 5 := Option.some.inj ((show Tryd.prog.funcNamed "tithebarn/tithebarnlaw1.StockMoves" = some 5 by kernel_rfl).symm.trans hf) |>.symm
  obtain rfl : fn = Tryd.f5 := (Option.some.inj (Tryd.func5.symm.trans hfn)).symm
  refine ⟨by kernel_rfl, fun j t ht => ?_⟩
  rw [Tryd.params5] at ht
  have hm : t ∈ [43, 45, 45, 9, 3] := by simpa using Array.mem_of_getElem? ht
  have hall : ([43, 45, 45, 9, 3].all fun u => !Tryd.prog.wantsStandIn u) = true := by kernel_rfl
  exact (show Tryd.prog.wantsStandIn t = false by simpa using List.all_eq_true.1 hall t hm)

theorem kmove_card : Rows.StockMovesCardSaid :=
  Claim7.holds_tied_plain_at .later [] _ _ _ _ kmove_said (fun _ h => by cases h) (by kernel_rfl) (fun _ h => by cases h) stockMoves_row_tie rfl ⟨rfl, rfl⟩ (by kernel_rfl) rfl kmove_plain (by kernel_rfl)
#print axioms kmove_card
end Go.Proofs.YtiegilnjfadhiabDoor
