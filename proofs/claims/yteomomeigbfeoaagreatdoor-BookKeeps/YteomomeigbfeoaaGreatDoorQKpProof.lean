/-
 The law BookKeeps answers true for every slice of entries, nil too, in every memory in which the listed package-level variables read as the program lays them, and leaves what was there as it was: the row, and the card that ties the listed variables to the program's text.
-/
import Derived.Test.YteomomeigbfeoaaGreatDoorRows
import Derived.Test.YteomomeigbfeoaaGreatDoorJz35
import Derived.Test.YteomomeigbfeoaaGreatDoorJz13
import Derived.Test.YteomomeigbfeoaaGreatDoorJz3
import Derived.Test.YteomomeigbfeoaaGreatDoorCards
import Derived.Test.YteomomeigbfeoaaGreatDoorTie
import Derived.ProofKit
import Derived.LaidMore
import Derived.Lay
import Derived.Carry
import Derived.LaidLaws
import Derived.LaidHandle
import Derived.OpenShut
import Derived.Stop.Joined
import Derived.Stop.LaidErr
import Derived.Lib.LaidTab
import Derived.Lib.SmallJoins
set_option maxRecDepth 100000
set_option maxHeartbeats 16000000
namespace Go.Proofs.YteomomeigbfeoaaGreatDoor
open Go.Joins
open Go.ChangeMaps (open_string shut_string)
open Go.ChangeShapes Go.WideShapes Go.ChangeAt Go.WideMaps Go.WideElems Go.RowKit
def eightList : List (Nat × String × List UInt8) := (sentList.drop 1).take 8
theorem eightList_ok : (eightList.all fun x => decide (Tryz.prog.globalNamed x.2.1 = some x.1) && decide ((Tryz.prog.globals[x.1]?).map (·.type) = some 40)) = true := by kernel_rfl
theorem eight_of_laid {W : World} (h : laidMet Tryz.prog (eightList.map fun x => (x.2.1, errD x.2.2)) W) : ∃ s, Bs W s := by
 obtain ⟨ps, hl, hnd, hrows⟩ := h
 obtain ⟨al, _, _, _, hrow⟩ := sents_of_laid eightList ps (fun x hx => by
  have := List.all_eq_true.1 eightList_ok x hx
  simpa using this) hl hnd hrows
 exact ⟨fun i => al.getD (i - 1) ⟨0, 0, none⟩, ⟨⟨(hrow 0 (by decide)).1, (hrow 3 (by decide)).1⟩, (hrow 1 (by decide)).1, (hrow 2 (by decide)).1⟩, ⟨⟨(hrow 0 (by decide)).1, (hrow 3 (by decide)).1⟩, (hrow 1 (by decide)).1, (hrow 6 (by decide)).1, (hrow 7 (by decide)).1⟩, (hrow 4 (by decide)).1, (hrow 5 (by decide)).1⟩
theorem bkeeps_out : laidOutB Tryz.prog = true := by kernel_rfl
theorem bkeeps_own : ownKnob Tryz.prog.godebug = none := by kernel_rfl
theorem bkeeps_door_met (os : Os) (args : Array Value) : laidMetH Tryz.prog Rows.bookKeepsRow.laid ((World.doorLaid Tryz.prog 400 os).forCall (fun _ _ => 0) ⟨#[], args, []⟩).memory :=
 laidMetH_of_parts3 (fuel := 8) (laidMet_of_run' 8 (by kernel_rfl) (by kernel_rfl)) (by kernel_rfl) (by kernel_rfl)
theorem bkeeps_laid {W : World} (h : laidMetH Tryz.prog Rows.bookKeepsRow.laid W) : ∃ s, Bs W s := by
 have h' : laidMet Tryz.prog (eightList.map fun x => (x.2.1, errD x.2.2)) W := h
 exact eight_of_laid h'
theorem bkeeps_lifted (os : Os) (started : os.Started) (H : Type) (enc : TypeId × Value → H) :
  ReturnsInHanded {} Tryz.checked os 4 .any (fun w args => (Rows.bookKeepsSpec.pre enc Tryz.prog Tryz.f4 [] false w args ∧ laidMetH Tryz.prog Rows.bookKeepsRow.laid w) ∧ sizedMet enc Tryz.prog Tryz.f4 (OpenSpec.ofChange Rows.bookKeepsSpec) false w args)
   (Rows.bookKeepsSpec.post enc Tryz.prog Tryz.f4 false true false false) := by
 refine returnsInHanded_of_change_and (C := Tryz.checked) (X := fun w _ => laidMetH Tryz.prog Rows.bookKeepsRow.laid w) (fun _ _ _ hh h => h.of_heap hh) bkeeps_own started (by kernel_rfl) Tryz.func4
  (ChangeSpec.witness_shaped (enc := enc) (C := Tryz.checked) (os := os) (X := fun w _ => laidMetH Tryz.prog Rows.bookKeepsRow.laid w) false (World.doorLaid Tryz.prog 400 os) #[.slice none 0 0] 8 rfl (World.shaped_of_RefB (by kernel_rfl) (by kernel_rfl)) (by kernel_rfl) (by kernel_rfl) (by kernel_rfl) (bkeeps_door_met os _)) ?_
 intro W base args ds gs before hval0 hW _ _ hL _
 have hval : ∀ (j : Nat) t v, Tryz.f4.params[j]? = some t → args[j]? = some v → Value.okWide Tryz.prog W .any base t v := hval0
 have hW' := hW
 obtain ⟨p, q, hA0, hV, rfl, hfz, hnd⟩ := hW
 have hA : DataW.TrodAll enc Tryz.prog W 0 (fun _ => true) true Tryz.f4.params.toList args.toList ds p := hA0
 rw [Tryz.params4] at hA hval
 obtain ⟨v0, d0, rfl, rfl, h0⟩ := trodAll_one hA
 obtain ⟨rfl, rfl⟩ := trodVars_none hV
 have ho := open_ents (hval 0 22 v0 rfl rfl) h0
 obtain ⟨s, hs⟩ := bkeeps_laid hL
 clear hA0 hval0
 simp only [List.append_nil] at hW'
 have hlt : ∀ x ∈ p, x.block < W.heap.size := fun x hx => by simpa using hW'.lt x hx
 refine (bookKeeps_any v0 W s hs ho).mono fun e W' ⟨he, hb⟩ => ?_
 subst he
 refine ⟨_, rfl, _, _, _, [], p, [], hW', ?_, ?_, ?_, hb.frame _, fun h => by cases h⟩
 ·exact trodAll_mk1 (shut_bool Tryz.underlying4 _)
 ·exact trodAll_mk1 (Below.trod bkeeps_out (by kernel_rfl) (of_decide_eq_true (by kernel_rfl)) h0 hb hlt)
 ·rfl
theorem bkeeps_said : Rows.BookKeepsSaid :=
 OpenClaim.holds_of_wide 4 Tryz.f4 rfl rfl rfl rfl rfl rfl rfl ⟨rfl, rfl, rfl, rfl, rfl⟩ rfl rfl rfl rfl rfl (by kernel_rfl) Tryz.func4 (by kernel_rfl)
  (of_decide_eq_true (by kernel_rfl)) (by unfold Func.isWrapper; rw [if_neg (of_decide_eq_false (by kernel_rfl))]; exact ⟨rfl, rfl⟩)
  (fun os started H enc _ => bkeeps_lifted os started H enc)
theorem bkeeps_plain (f : FuncId) (fn : Func) (hf : Tryz.pinned.checked.prog.funcNamed "tithebarn/tithebarnlaw2.BookKeeps" = some f) (hfn : Tryz.pinned.checked.prog.funcs[f]? = some fn) :
  true = Tryz.pinned.checked.prog.looks [] ∧ ∀ (j : Nat) t, fn.params[j]? = some t → Tryz.pinned.checked.prog.wantsStandIn t = false := by
 obtain rfl : f = 4 := Option.some.inj ((show Tryz.prog.funcNamed "tithebarn/tithebarnlaw2.BookKeeps" = some 4 by kernel_rfl).symm.trans hf) |>.symm
 obtain rfl : fn = Tryz.f4 := (Option.some.inj (Tryz.func4.symm.trans hfn)).symm
 refine ⟨by kernel_rfl, fun j t ht => ?_⟩
 rw [Tryz.params4] at ht
 have hm : t ∈ [22] := by simpa using Array.mem_of_getElem? ht
 have hall : ([22].all fun u => !Tryz.prog.wantsStandIn u) = true := by kernel_rfl
 exact (show Tryz.prog.wantsStandIn t = false by simpa using List.all_eq_true.1 hall t hm)
theorem bkeeps_card : Rows.BookKeepsCardSaid :=
 Claim7.holds_tied_plain_at .later [] _ _ _ _ bkeeps_said (fun _ h => by cases h) (by kernel_rfl) (fun _ h => by cases h) bookKeeps_row_tie rfl ⟨rfl, rfl⟩ (by kernel_rfl) rfl bkeeps_plain (by kernel_rfl)
#print axioms bkeeps_card
end Go.Proofs.YteomomeigbfeoaaGreatDoor
