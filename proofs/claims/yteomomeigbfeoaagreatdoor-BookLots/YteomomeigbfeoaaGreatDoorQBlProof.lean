/-
 The law BookLots answers true for every slice of entries, nil too, in every memory in which the listed package-level variables read as the program lays them, and leaves what was there as it was: the row, and the card that ties the listed variables to the program's text.
-/
import Derived.Test.YteomomeigbfeoaaGreatDoorRows
import Derived.Test.YteomomeigbfeoaaGreatDoorJz37
import Derived.Test.YteomomeigbfeoaaGreatDoorJz9
import Derived.Test.YteomomeigbfeoaaGreatDoorJz1
import Derived.Test.YteomomeigbfeoaaGreatDoorCards
import Derived.Test.YteomomeigbfeoaaGreatDoorTie
import Derived.ProofKit
import Derived.LaidMore
import Derived.Lay
import Derived.Carry
import Derived.LaidLaws
import Derived.LaidHandle
import Derived.OpenShut
import Derived.Stop.Joined
import Derived.Stop.LaidErr
import Derived.Lib.LaidTab
import Derived.Lib.SmallJoins
import Derived.Test.YteomomeigbfeoaaGreatDoorJz2
set_option maxRecDepth 100000
set_option maxHeartbeats 16000000
namespace Go.Proofs.YteomomeigbfeoaaGreatDoor
open Go.Joins
open Go.ChangeMaps (open_string shut_string)
open Go.ChangeShapes Go.WideShapes Go.ChangeAt Go.WideMaps Go.WideElems Go.RowKit
theorem blots9_out : laidOutB Tryz.prog = true := by kernel_rfl
theorem blots9_own : ownKnob Tryz.prog.godebug = none := by kernel_rfl
def blots9_great : List (String × DataW Unit) := (Rows.bookLotsRow.laid.filter fun x => x.2.handleName?.isNone).filter fun x => ["unicode/utf8.first"].contains x.1
noncomputable def blots9_world (os : Os) : World := (World.doorLaid Tryz.prog 400 os).layVars Tryz.prog blots9_great
theorem blots9_world_os (os : Os) : (blots9_world os).os = os := (World.layVars_os _ _ _).trans rfl
theorem blots9_door_met (os : Os) (args : Array Value) : laidMetH Tryz.prog Rows.bookLotsRow.laid ((blots9_world os).forCall (fun _ _ => 0) ⟨#[], args, []⟩).memory :=
 laidMetH_of_parts3 (fuel := 8)
  (laidMet_layVars (w0 := World.doorLaid Tryz.prog 400 os) ["unicode/utf8.first"] ((List.range (World.doorLaid Tryz.prog 400 os).heap.size).filter (· != 15)) (by simp [World.memory, World.forCall, Input.heap]; rfl) (by kernel_rfl) (by kernel_rfl)
   (LaidIn.of_run _ 8 (by kernel_rfl) (by kernel_rfl) (by kernel_rfl) (by kernel_rfl))) (by kernel_rfl) (by kernel_rfl)
theorem laidMet_perm {P : Program} {w : World} {l l' : List (String × DataW Unit)} (h : laidMet P l w) (hp : l.Perm l') : laidMet P l' w := by
 obtain ⟨ps, a, b, c⟩ := h
 obtain ⟨ps', a', hq⟩ := Lay.LaidVars_perm hp a
 exact ⟨ps', a', hq.nodup_iff.1 b, fun bk off hm => c bk off (hq.mem_iff.2 hm)⟩
theorem blots9_laid {W : World} (h : laidMetH Tryz.prog Rows.bookLotsRow.laid W) : Pow W ∧ (∃ s, Sent W s) ∧ Handle W := by
 have h' : laidMet Tryz.prog (("math/bits.deBruijn32tab", Rows.laid_math_bits_deBruijn32tab) :: ("math/bits.deBruijn64tab", Rows.laid_math_bits_deBruijn64tab) :: ("internal/strconv.uint64pow10", Rows.laid_internal_strconv_uint64pow10) :: ("unicode/utf8.acceptRanges", Rows.laid_unicode_utf8_acceptRanges) :: ((sentList.map fun x => (x.2.1, errD x.2.2)) ++ [("unicode/utf8.first", Rows.laid_unicode_utf8_first)])) W ∧ handlesMet Tryz.prog [("errors.errorType", Rows.laid_errors_errorType)] W := h
 have h1 := laidMet.tail (laidMet.tail h'.1)
 exact ⟨pow_of_laid h1, sent_of_laid (laidMet.tail (laidMet_perm (laidMet.tail (laidMet.tail h1)) (List.perm_append_singleton _ _))), handle_of_laid h'.2⟩
theorem blots9_lifted (os : Os) (started : os.Started) (H : Type) (enc : TypeId × Value → H) :
  ReturnsInHanded {} Tryz.checked os 6 .any (fun w args => (Rows.bookLotsSpec.pre enc Tryz.prog Tryz.f6 [] false w args ∧ laidMetH Tryz.prog Rows.bookLotsRow.laid w) ∧ sizedMet enc Tryz.prog Tryz.f6 (OpenSpec.ofChange Rows.bookLotsSpec) false w args)
   (Rows.bookLotsSpec.post enc Tryz.prog Tryz.f6 false true false false) := by
 refine returnsInHanded_of_change_and (C := Tryz.checked) (X := fun w _ => laidMetH Tryz.prog Rows.bookLotsRow.laid w) (fun _ _ _ hh h => h.of_heap hh) blots9_own started (by kernel_rfl) Tryz.func6
  (ChangeSpec.witness_shaped (enc := enc) (C := Tryz.checked) (os := os) (X := fun w _ => laidMetH Tryz.prog Rows.bookLotsRow.laid w) false (blots9_world os) #[.slice none 0 0] 8 (blots9_world_os os) (World.shaped_of_ZipB (by kernel_rfl) (by kernel_rfl)) (by kernel_rfl) (by kernel_rfl) (by kernel_rfl) (blots9_door_met os _)) ?_
 intro W base args ds gs before hval0 hW _ _ hL _
 have hval : ∀ (j : Nat) t v, Tryz.f6.params[j]? = some t → args[j]? = some v → Value.okWide Tryz.prog W .any base t v := hval0
 have hW' := hW
 obtain ⟨p, q, hA0, hV, rfl, hfz, hnd⟩ := hW
 have hA : DataW.TrodAll enc Tryz.prog W 0 (fun _ => true) true Tryz.f6.params.toList args.toList ds p := hA0
 rw [Tryz.params6] at hA hval
 obtain ⟨v0, d0, rfl, rfl, h0⟩ := trodAll_one hA
 obtain ⟨rfl, rfl⟩ := trodVars_none hV
 have ho := open_ents (hval 0 22 v0 rfl rfl) h0
 obtain ⟨hp, ⟨s, hs⟩, hh⟩ := blots9_laid hL
 clear hA0 hval0
 simp only [List.append_nil] at hW'
 have hlt : ∀ x ∈ p, x.block < W.heap.size := fun x hx => by simpa using hW'.lt x hx
 refine (bookLots_any v0 W s hs hh hp ho).mono fun e W' ⟨he, hb⟩ => ?_
 subst he
 refine ⟨_, rfl, _, _, _, [], p, [], hW', ?_, ?_, ?_, hb.frame _, fun h => by cases h⟩
 ·exact trodAll_mk1 (shut_bool Tryz.underlying4 _)
 ·exact trodAll_mk1 (Below.trod blots9_out (by kernel_rfl) (of_decide_eq_true (by kernel_rfl)) h0 hb hlt)
 ·rfl
theorem blots9_said : Rows.BookLotsSaid :=
 OpenClaim.holds_of_wide 6 Tryz.f6 rfl rfl rfl rfl rfl rfl rfl ⟨rfl, rfl, rfl, rfl, rfl⟩ rfl rfl rfl rfl rfl (by kernel_rfl) Tryz.func6 (by kernel_rfl)
  (of_decide_eq_true (by kernel_rfl)) (by unfold Func.isWrapper; rw [if_neg (of_decide_eq_false (by kernel_rfl))]; exact ⟨rfl, rfl⟩)
  (fun os started H enc _ => blots9_lifted os started H enc)
theorem blots9_plain (f : FuncId) (fn : Func) (hf : Tryz.pinned.checked.prog.funcNamed "tithebarn/tithebarnlaw2.BookLots" = some f) (hfn : Tryz.pinned.checked.prog.funcs[f]? = some fn) :
  true = Tryz.pinned.checked.prog.looks [] ∧ ∀ (j : Nat) t, fn.params[j]? = some t → Tryz.pinned.checked.prog.wantsStandIn t = false := by
 obtain rfl : f = 6 := Option.some.inj ((show Tryz.prog.funcNamed "tithebarn/tithebarnlaw2.BookLots" = some 6 by kernel_rfl).symm.trans hf) |>.symm
 obtain rfl : fn = Tryz.f6 := (Option.some.inj (Tryz.func6.symm.trans hfn)).symm
 refine ⟨by kernel_rfl, fun j t ht => ?_⟩
 rw [Tryz.params6] at ht
 have hm : t ∈ [22] := by simpa using Array.mem_of_getElem? ht
 have hall : ([22].all fun u => !Tryz.prog.wantsStandIn u) = true := by kernel_rfl
 exact (show Tryz.prog.wantsStandIn t = false by simpa using List.all_eq_true.1 hall t hm)
theorem blots9_card : Rows.BookLotsCardSaid :=
 Claim7.holds_tied_plain_at .later [] _ _ _ _ blots9_said (fun _ h => by cases h) (by kernel_rfl) (fun _ h => by cases h) bookLots_row_tie rfl ⟨rfl, rfl⟩ (by kernel_rfl) rfl blots9_plain (by kernel_rfl)
#print axioms blots9_card
end Go.Proofs.YteomomeigbfeoaaGreatDoor
