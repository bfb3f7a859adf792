/-
  The law GoodsTell answers true for all goods, all integers n and pack, and all texts, in every memory in which the listed package-level variables read as the program lays them, and leaves what was there as it was: the row, and the card that ties the listed variables to the program's text.
-/
import Derived.Test.YtmgjjmgponebcaaDoorRows
import Derived.Test.YtmgjjmgponebcaaDoorTellWalk
import Derived.Test.YtmgjjmgponebcaaDoorCards
import Derived.Test.YtmgjjmgponebcaaDoorTie
import Derived.ProofKit
import Derived.LaidMore
import Derived.LaidLaws
import Derived.LaidHandle
import Derived.OpenShut
import Derived.Stop.Joined
import Derived.Stop.LaidErr
import Derived.Lib.LaidTab
import Derived.Lib.SmallJoins
import Derived.Test.YtmgjjmgponebcaaDoorLaid
namespace Go.Proofs.YtmgjjmgponebcaaDoor
open Go.Joins
open Go.ChangeMaps (open_string shut_string)
open Go.ChangeShapes Go.WideShapes Go.ChangeAt Go.WideMaps Go.WideElems Go.RowKit

theorem tell_own : ownKnob Tryd.prog.godebug = none := by kernel_rfl
theorem tell_door_met (os : Os) (args : Array Value) : laidMetH Tryd.prog Rows.goodsTellRow.laid ((World.doorLaid Tryd.prog 400 os).forCall (fun _ _ => 0) ⟨#[], args, []⟩).memory :=
  laidMetH_of_parts3 (fuel := 8) (laidMet_of_run' 8 (by kernel_rfl) (by kernel_rfl)) (by kernel_rfl) (by kernel_rfl)

theorem Tryd.gPow : Tryd.prog.globalNamed "internal/strconv.uint64pow10" = some 14 := by kernel_rfl
theorem Tryd.gPowType : (Tryd.prog.globals[14]?).map (·.type) = some 105 := by kernel_rfl
theorem Tryd.cellsPow : Tryd.prog.cellsOf 105 = 20 := by kernel_rfl
theorem Tryd.cellsU64 : Tryd.prog.cellsOf 95 = 1 := by kernel_rfl
theorem pow_of_laid {W : World} {rest : List (String × DataW Unit)} (h : laidMet Tryd.prog (("internal/strconv.uint64pow10", Rows.laid_internal_strconv_uint64pow10) :: rest) W) : Pow W :=
  Lib.tabIs_of_head (k := .u64) (zs := Lib.pow10Tab) Tryd.gPow Tryd.gPowType Tryd.underlying105 Tryd.underlying95 Tryd.cellsU64 Tryd.cellsPow h
theorem tell_laid {W : World} (h : laidMetH Tryd.prog Rows.goodsTellRow.laid W) : Pow W ∧ (∃ s, Sent W s) ∧ Handle W := by
  have h' : laidMet Tryd.prog (("math/bits.deBruijn32tab", Rows.laid_math_bits_deBruijn32tab) :: ("math/bits.deBruijn64tab", Rows.laid_math_bits_deBruijn64tab) :: ("internal/strconv.uint64pow10", Rows.laid_internal_strconv_uint64pow10) :: (sentList.map fun x => (x.2.1, errD x.2.2))) W ∧ handlesMet Tryd.prog [("errors.errorType", Rows.laid_errors_errorType)] W := h
  have h1 := laidMet.tail (laidMet.tail h'.1)
  exact ⟨pow_of_laid h1, sent_of_laid (laidMet.tail h1), handle_of_laid h'.2⟩
theorem Tryd.cellsGoods : Tryd.prog.cellsOf 36 = 2 := by kernel_rfl

set_option maxRecDepth 100000 in
theorem tell_lifted (os : Os) (started : os.Started) (H : Type) (enc : TypeId × Value → H) :
    ReturnsInHanded {} Tryd.checked os 4 .any (fun w args => (Rows.goodsTellSpec.pre enc Tryd.prog Tryd.f4 [] false w args ∧ laidMetH Tryd.prog Rows.goodsTellRow.laid w) ∧ sizedMet enc Tryd.prog Tryd.f4 (OpenSpec.ofChange Rows.goodsTellSpec) false w args)
      (Rows.goodsTellSpec.post enc Tryd.prog Tryd.f4 false true false false) := by
  refine returnsInHanded_of_change_and (C := Tryd.checked) (X := fun w _ => laidMetH Tryd.prog Rows.goodsTellRow.laid w) (fun _ _ _ hh h => h.of_heap hh) tell_own started (by kernel_rfl) Tryd.func4
    (ChangeSpec.witness_shaped (enc := enc) (C := Tryd.checked) (os := os) (X := fun w _ => laidMetH Tryd.prog Rows.goodsTellRow.laid w) false (World.doorLaid Tryd.prog 400 os) #[.agg #[.string ByteArray.empty, .int .i64 0], .int .i64 0, .int .i64 0, .string ByteArray.empty] 8 rfl (World.shaped_of_RefB (by kernel_rfl) (by kernel_rfl)) (by kernel_rfl) (by kernel_rfl) (by kernel_rfl) (tell_door_met os _)) ?_
  intro W base args ds gs before hval0 hW _ _ hL _
  have hval : ∀ (j : Nat) t v, Tryd.f4.params[j]? = some t → args[j]? = some v → Value.okWide Tryd.prog W .any base t v := hval0
  have hW' := hW
  obtain ⟨p, q, hA0, hV, rfl, hfz, hnd⟩ := hW
  have hA : DataW.TrodAll enc Tryd.prog W 0 (fun _ => true) true Tryd.f4.params.toList args.toList ds p := hA0
  rw [Tryd.params4] at hA hval
  obtain ⟨v0, v1, v2, v3, d0, d1, d2, d3, p0, p1, p2, p3, rfl, rfl, rfl, h0, h1, h2, h3⟩ := trodAll_four hA
  obtain ⟨rfl, rfl⟩ := trodVars_none hV
  obtain ⟨c0, c1, y0, y1, m, rfl, rfl, rfl, hy0, hy1⟩ := open_agg2 Tryd.underlying36 (by kernel_rfl) Tryd.cellsGoods (hval 0 36 v0 rfl rfl) h0
  obtain ⟨c, e0, rfl, wc⟩ := DataW.trod_string Tryd.underlying9 hy0
  obtain ⟨gp, e1, rfl, wg⟩ := DataW.trod_int Tryd.underlying3 hy1
  simp at e0 e1
  subst e0 e1
  obtain ⟨n, rfl, rfl, rfl, wn⟩ := open_int Tryd.underlying3 (hval 1 3 v1 rfl rfl) h1
  obtain ⟨pack, rfl, rfl, rfl, wp⟩ := open_int Tryd.underlying3 (hval 2 3 v2 rfl rfl) h2
  obtain ⟨x, rfl, rfl, rfl, wx⟩ := open_string Tryd.underlying9 (hval 3 9 v3 rfl rfl) h3
  obtain ⟨hp, ⟨s, hs⟩, hh⟩ := tell_laid hL
  clear hA0 hval0
  simp only [List.append_nil] at hW'
  have walk : Calls Tryd.prog 4 #[.agg #[.string c, .int .i64 gp], .int .i64 n, .int .i64 pack, .string x] W fun e w' => e = .returned (.bool true) ∧ Below W.heap.size W w' := by
    by_cases h : 30 < c.size ∨ 40 < x.size
    · exact tell_long c x gp n pack W hp wc wx h
    · exact tell_short c x gp n pack W s hs hh hp (by omega) (by omega)
  have reads : ∀ (W' : World) (sp : Nat → Bool), DataW.Trod enc Tryd.prog W' 0 sp true 36 (.agg #[.string c, .int .i64 gp]) (.agg [.lit (.string c.data.toList), .lit (.int .i64 gp)]) [] := fun W' sp =>
    shut_agg2 (y0 := (.lit (.string c.data.toList), [])) (y1 := (.lit (.int .i64 gp), [])) Tryd.underlying36 (by kernel_rfl) Tryd.cellsGoods ⟨1, by simp [DataW.trod, Tryd.underlying9, wc]⟩ ⟨1, by simp [DataW.trod, Tryd.underlying3, wg]⟩
  refine walk.mono fun e W' ⟨he, hb⟩ => ?_
  subst he
  refine ⟨_, rfl, _, _, _, [], [], [], hW', ?_, ?_, ?_, hb.frame _, fun h => by cases h⟩
  · exact trodAll_mk1 (shut_bool Tryd.underlying4 _)
  · exact trodAll_mk4 (reads _ _) (shut_int Tryd.underlying3 wn) (shut_int Tryd.underlying3 wp) (shut_string Tryd.underlying9 wx)
  · rfl

theorem tell_said : Rows.GoodsTellSaid :=
  OpenClaim.holds_of_wide 4 Tryd.f4 rfl rfl rfl rfl rfl rfl rfl ⟨rfl, rfl, rfl, rfl, rfl⟩ rfl rfl rfl rfl rfl (by kernel_rfl) Tryd.func4 (by kernel_rfl)
    (of_decide_eq_true (by kernel_rfl)) (by unfold Func.isWrapper; rw [if_neg (of_decide_eq_false (by kernel_rfl))]; exact ⟨rfl, rfl⟩)
    (fun os started H enc _ => tell_lifted os started H enc)

theorem tell_plain (f : FuncId) (fn : Func) (hf : Tryd.pinned.checked.prog.funcNamed "tithebarn/tithebarnlaw1.GoodsTell" = some f) (hfn : Tryd.pinned.checked.prog.funcs[f]? = some fn) :
    true = Tryd.pinned.checked.prog.looks [] ∧ ∀ (j : Nat) t, fn.params[j]? = some t → Tryd.pinned.checked.prog.wantsStandIn t = false := by
  obtain rfl : f = 4 := Option.some.inj ((show Tryd.prog.funcNamed "tithebarn/tithebarnlaw1.GoodsTell" = some 4 by kernel_rfl).symm.trans hf) |>.symm
  obtain rfl : fn = Tryd.f4 := (Option.some.inj (Tryd.func4.symm.trans hfn)).symm
  refine ⟨by kernel_rfl, fun j t ht => ?_⟩
  rw [Tryd.params4] at ht
  have hm : t ∈ [36, 3, 3, 9] := by simpa using Array.mem_of_getElem? ht
  have hall : ([36, 3, 3, 9].all fun u => !Tryd.prog.wantsStandIn u) = true := by kernel_rfl
  exact (show Tryd.prog.wantsStandIn t = false by simpa using List.all_eq_true.1 hall t hm)

theorem tell_card : Rows.GoodsTellCardSaid :=
  Claim7.holds_tied_plain_at .later [] _ _ _ _ tell_said (fun _ h => by cases h) (by kernel_rfl) (fun _ h => by cases h) goodsTell_row_tie rfl ⟨rfl, rfl⟩ (by kernel_rfl) rfl tell_plain (by kernel_rfl)
#print axioms tell_card
end Go.Proofs.YtmgjjmgponebcaaDoor
