/-
  The law LotTells answers true for all lots a and b, all texts and all days, in every memory in which the listed package-level variables read as the program lays them, and leaves what was there as it was: the row, and the card that ties the listed variables to the program's text.
-/
import Derived.Test.YtdlacmfejlmpdabDoorRows
import Derived.Test.YtdlacmfejlmpdabDoorLOpen
import Derived.Test.YtdlacmfejlmpdabDoorLTells
import Derived.Test.YtdlacmfejlmpdabDoorCards
import Derived.Test.YtdlacmfejlmpdabDoorTie
import Derived.ProofKit
import Derived.LaidMore
import Derived.Lay
import Derived.Carry
import Derived.LaidLaws
import Derived.LaidHandle
import Derived.OpenShut
import Derived.Stop.Joined
import Derived.Stop.LaidErr
import Derived.Lib.LaidTab
import Derived.Lib.SmallJoins
import Derived.Test.YtdlacmfejlmpdabDoorPLaid
namespace Go.Proofs.YtdlacmfejlmpdabDoor
open Go.Joins
open Go.ChangeMaps (open_string shut_string)
open Go.ChangeShapes Go.WideShapes Go.ChangeAt Go.WideMaps Go.WideElems Go.RowKit

theorem ltell_own : ownKnob Tryd.prog.godebug = none := by kernel_rfl
/-- The great table that the witness lays by itself. -/
def ltell_great : List (String × DataW Unit) := (Rows.lotTellsRow.laid.filter fun x => x.2.handleName?.isNone).filter fun x => ["unicode/utf8.first"].contains x.1
noncomputable def ltell_world (os : Os) : World := (World.doorLaid Tryd.prog 400 os).layVars Tryd.prog ltell_great
theorem ltell_world_os (os : Os) : (ltell_world os).os = os := (World.layVars_os _ _ _).trans rfl
theorem ltell_door_met (os : Os) (args : Array Value) : laidMetH Tryd.prog Rows.lotTellsRow.laid ((ltell_world os).forCall (fun _ _ => 0) ⟨#[], args, []⟩).memory :=
  laidMetH_of_parts3 (fuel := 8)
    (laidMet_layVars (w0 := World.doorLaid Tryd.prog 400 os) ["unicode/utf8.first"] ((List.range (World.doorLaid Tryd.prog 400 os).heap.size).filter (· != 15)) (by simp [World.memory, World.forCall, Input.heap]; rfl) (by kernel_rfl) (by kernel_rfl)
      (LaidIn.of_run _ 8 (by kernel_rfl) (by kernel_rfl) (by kernel_rfl) (by kernel_rfl))) (by kernel_rfl) (by kernel_rfl)
theorem laidMet_perm {P : Program} {w : World} {l l' : List (String × DataW Unit)} (h : laidMet P l w) (hp : l.Perm l') : laidMet P l' w := by
  obtain ⟨ps, a, b, c⟩ := h
  obtain ⟨ps', a', hq⟩ := Lay.LaidVars_perm hp a
  exact ⟨ps', a', hq.nodup_iff.1 b, fun bk off hm => c bk off (hq.mem_iff.2 hm)⟩
theorem ltell_laid {W : World} (h : laidMetH Tryd.prog Rows.lotTellsRow.laid W) : Pow W ∧ (∃ s, Sent W s) ∧ Handle W := by
  have h' : laidMet Tryd.prog (("math/bits.deBruijn32tab", Rows.laid_math_bits_deBruijn32tab) :: ("math/bits.deBruijn64tab", Rows.laid_math_bits_deBruijn64tab) :: ("internal/strconv.uint64pow10", Rows.laid_internal_strconv_uint64pow10) :: ("unicode/utf8.acceptRanges", Rows.laid_unicode_utf8_acceptRanges) :: ((sentList.map fun x => (x.2.1, errD x.2.2)) ++ [("unicode/utf8.first", Rows.laid_unicode_utf8_first)])) W ∧ handlesMet Tryd.prog [("errors.errorType", Rows.laid_errors_errorType)] W := h
  have h1 := laidMet.tail (laidMet.tail h'.1)
  exact ⟨pow_of_laid h1, sent_of_laid (laidMet.tail (laidMet_perm (laidMet.tail (laidMet.tail h1)) (List.perm_append_singleton _ _))), handle_of_laid h'.2⟩

set_option maxRecDepth 100000 in
theorem ltell_lifted (os : Os) (started : os.Started) (H : Type) (enc : TypeId × Value → H) :
    ReturnsInHanded {} Tryd.checked os 3 .any (fun w args => (Rows.lotTellsSpec.pre enc Tryd.prog Tryd.f3 [] false w args ∧ laidMetH Tryd.prog Rows.lotTellsRow.laid w) ∧ sizedMet enc Tryd.prog Tryd.f3 (OpenSpec.ofChange Rows.lotTellsSpec) false w args)
      (Rows.lotTellsSpec.post enc Tryd.prog Tryd.f3 false true false false) := by
  refine returnsInHanded_of_change_and (C := Tryd.checked) (X := fun w _ => laidMetH Tryd.prog Rows.lotTellsRow.laid w) (fun _ _ _ hh h => h.of_heap hh) ltell_own started (by kernel_rfl) Tryd.func3
    (ChangeSpec.witness_shaped (enc := enc) (C := Tryd.checked) (os := os) (X := fun w _ => laidMetH Tryd.prog Rows.lotTellsRow.laid w) false (ltell_world os) #[.agg #[.string ByteArray.empty, .string ByteArray.empty, .int .i64 0, .int .i64 0], .agg #[.string ByteArray.empty, .string ByteArray.empty, .int .i64 0, .int .i64 0], .string ByteArray.empty, .int .i64 0] 8 (ltell_world_os os) (World.shaped_of_ZipB (by kernel_rfl) (by kernel_rfl)) (by kernel_rfl) (by kernel_rfl) (by kernel_rfl) (ltell_door_met os _)) ?_
  intro W base args ds gs before hval0 hW _ _ hL _
  have hval : ∀ (j : Nat) t v, Tryd.f3.params[j]? = some t → args[j]? = some v → Value.okWide Tryd.prog W .any base t v := hval0
  have hW' := hW
  obtain ⟨p, q, hA0, hV, rfl, hfz, hnd⟩ := hW
  have hA : DataW.TrodAll enc Tryd.prog W 0 (fun _ => true) true Tryd.f3.params.toList args.toList ds p := hA0
  rw [Tryd.params3] at hA hval
  obtain ⟨v0, v1, v2, v3, d0, d1, d2, d3, p0, p1, p2, p3, rfl, rfl, rfl, h0, h1, h2, h3⟩ := trodAll_four hA
  obtain ⟨rfl, rfl⟩ := trodVars_none hV
  obtain ⟨x, rfl, rfl, rfl, wx⟩ := open_lot (hval 0 23 v0 rfl rfl) h0
  obtain ⟨y, rfl, rfl, rfl, wy⟩ := open_lot (hval 1 23 v1 rfl rfl) h1
  obtain ⟨z, rfl, rfl, rfl, wz⟩ := open_string Tryd.underlying9 (hval 2 9 v2 rfl rfl) h2
  obtain ⟨day, rfl, rfl, rfl, wd⟩ := open_int Tryd.underlying3 (hval 3 3 v3 rfl rfl) h3
  obtain ⟨hp, ⟨s, hs⟩, hh⟩ := ltell_laid hL
  clear hA0 hval0
  simp only [List.append_nil] at hW'
  have walk : Calls Tryd.prog 3 #[agL x, agL y, .string z, .int .i64 day] W fun e w' => e = .returned (.bool true) ∧ Below W.heap.size W w' := by
    by_cases h : 30 < x.1.size ∨ 30 < x.2.1.size ∨ 30 < y.1.size ∨ 60 < z.size
    · exact ltells_long x y z day W s hs.two hp wx.1 wx.2.1 wy.1 wz h
    · exact ltells_short x y z day W s hs hh hp (by omega) (by omega) (by omega) (by omega)
  refine walk.mono fun e W' ⟨he, hb⟩ => ?_
  subst he
  refine ⟨_, rfl, _, _, _, [], [], [], hW', ?_, ?_, ?_, hb.frame _, fun h => by cases h⟩
  · exact trodAll_mk1 (shut_bool Tryd.underlying4 _)
  · exact trodAll_mk4 (shut_lot wx) (shut_lot wy) (shut_string Tryd.underlying9 wz) (shut_int Tryd.underlying3 wd)
  · rfl

theorem ltell_said : Rows.LotTellsSaid :=
  OpenClaim.holds_of_wide 3 Tryd.f3 rfl rfl rfl rfl rfl rfl rfl ⟨rfl, rfl, rfl, rfl, rfl⟩ rfl rfl rfl rfl rfl (by kernel_rfl) Tryd.func3 (by kernel_rfl)
    (of_decide_eq_true (by kernel_rfl)) (by unfold Func.isWrapper; rw [if_neg (of_decide_eq_false (by kernel_rfl))]; exact ⟨rfl, rfl⟩)
    (fun os started H enc _ => ltell_lifted os started H enc)

theorem ltell_plain (f : FuncId) (fn : Func) (hf : Tryd.pinned.checked.prog.funcNamed "tithebarn/tithebarnlaw1.LotTells" = some f) (hfn : Tryd.pinned.checked.prog.funcs[f]? = some fn) :
    true = Tryd.pinned.checked.prog.looks [] ∧ ∀ (j : Nat) t, fn.params[j]? = some t → Tryd.pinned.checked.prog.wantsStandIn t = false := by
  obtain rfl : f = 3 := Option.some.inj ((show Tryd.prog.funcNamed "tithebarn/tithebarnlaw1.LotTells" = some 3 by kernel_rfl).symm.trans hf) |>.symm
  obtain rfl : fn = Tryd.f3 := (Option.some.inj (Tryd.func3.symm.trans hfn)).symm
  refine ⟨by kernel_rfl, fun j t ht => ?_⟩
  rw [Tryd.params3] at ht
  have hm : t ∈ [23, 23, 9, 3] := by simpa using Array.mem_of_getElem? ht
  have hall : ([23, 23, 9, 3].all fun u => !Tryd.prog.wantsStandIn u) = true := by kernel_rfl
  exact (show Tryd.prog.wantsStandIn t = false by simpa using List.all_eq_true.1 hall t hm)

theorem ltell_card : Rows.LotTellsCardSaid :=
  Claim7.holds_tied_plain_at .later [] _ _ _ _ ltell_said (fun _ h => by cases h) (by kernel_rfl) (fun _ h => by cases h) lotTells_row_tie rfl ⟨rfl, rfl⟩ (by kernel_rfl) rfl ltell_plain (by kernel_rfl)
#print axioms ltell_card
end Go.Proofs.YtdlacmfejlmpdabDoor
