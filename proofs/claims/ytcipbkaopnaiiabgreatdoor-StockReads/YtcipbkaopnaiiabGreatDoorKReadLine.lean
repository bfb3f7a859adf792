/-
  What readLine answers, whatever the text.
-/
import Derived.Test.YtcipbkaopnaiiabGreatDoorKRLb
import Derived.Test.YtcipbkaopnaiiabGreatDoorKRLc
import Derived.Test.YtcipbkaopnaiiabGreatDoorKRLd
namespace Go.Proofs.YtcipbkaopnaiiabGreatDoor
open Go.RowKit Go.Lib Go.Sort

theorem numK_val {l : List UInt8} (h : isNum 13 l = true) : numR 13 l = numVal l := by rw [numR_yes h]
theorem arr_list (l : List UInt8) : (⟨l.toArray⟩ : ByteArray).data.toList = l := by simp
/-- readLine. -/
theorem kline_any (x : ByteArray) (w : World) (s : Nat → Addr) (hz : x.size < 4294967281) (hs : Three w s) :
    Calls Tryz.prog 34 #[.string x, .bool true] w fun e w' => e = .returned (.tuple #[agN (readN x.data.toList).1, errP s (readN x.data.toList).2]) ∧ Below w.heap.size w w' := by
  have e0 : ∀ c, lnErr x.data.toList = c → c ≠ 0 → readN x.data.toList = (zeroN, c) := fun c h hc => by unfold readN; rw [if_neg (by rw [h]; exact hc), h]
  cases h : wordsK x.data.toList with
  | false =>
    rw [e0 1 (by unfold lnErr numK; rw [h]; rfl) (by decide)]
    exact kline_few x w s hz hs h
  | true =>
    cases h1 : isNum 13 (cutB 32 (cutB 32 x.data.toList)) with
    | false =>
      rw [e0 1 (by unfold lnErr numK; rw [h, h1]; rfl) (by decide)]
      exact kline_num x w s hz hs h h1
    | true =>
      have hk : numK x.data.toList = true := by unfold numK; rw [h, h1]; rfl
      by_cases h2 : (readP (cutA 32 x.data.toList)).2 = 0
      · cases h3 : isName (cutA 32 (cutB 32 x.data.toList)) with
        | false =>
          rw [e0 5 (by unfold lnErr; rw [if_pos hk, if_pos h2, h3]; rfl) (by decide)]
          exact kline_name x w s hz hs h h1 h2 h3
        | true =>
          cases h4 : numW (numR 13 (cutB 32 (cutB 32 x.data.toList))) with
          | false =>
            have h4' := h4
            rw [numK_val h1] at h4'
            rw [e0 2 (by unfold lnErr; rw [if_pos hk, if_pos h2, if_pos h3, h4']; rfl) (by decide)]
            exact kline_bound x w s hz hs h h1 h2 h3 h4
          | true =>
            have h4' := h4
            rw [numK_val h1] at h4'
            have e1 : lnErr x.data.toList = 0 := by unfold lnErr; rw [if_pos hk, if_pos h2, if_pos h3, if_pos h4']
            have e2 : readN x.data.toList = (((readP (cutA 32 x.data.toList)).1, ⟨(cutA 32 (cutB 32 x.data.toList)).toArray⟩, numR 13 (cutB 32 (cutB 32 x.data.toList))), 0) := by unfold readN; rw [if_pos e1, numK_val h1]; rfl
            rw [e2]
            exact kline_in x w s hz hs h h1 h2 h3 h4
      · rw [e0 (readP (cutA 32 x.data.toList)).2 (by unfold lnErr; rw [if_pos hk, if_neg h2]) h2]
        exact kline_place x w s hz hs h h1 h2
end Go.Proofs.YtcipbkaopnaiiabGreatDoor
