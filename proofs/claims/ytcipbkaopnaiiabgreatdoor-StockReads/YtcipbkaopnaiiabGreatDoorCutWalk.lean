/-
  What the reference's Cut answers: a slice of the pieces, in memory of the call's own; condition: the text has at most 100,000 bytes.
-/
import Derived.Test.YtcipbkaopnaiiabGreatDoorSplit
import Derived.Deep.AppendLies
import Derived.WalkKit
namespace Go.Proofs.YtcipbkaopnaiiabGreatDoor
open Go.RowKit Go.Lib Go.Sort

theorem Tryz.infoStr : (Tryz.prog.info? 9).map (fun i => (i.zero, i.size, i.bytes)) = some (some (.string ⟨#[]⟩), 1, 16) := by kernel_rfl
theorem one_cell {W : World} (v : Value) (t n : Nat) (hn : n = W.heap.size) : ∀ j u, [v][j]? = some u → (W.alloc (.cells #[v] t)).cell? ((⟨n, 0, none⟩ : Addr).add j) = some u := by
  intro j u hj
  match j, hj with
  | 0, hj =>
    simp at hj
    subst hj
    subst hn
    simp [Addr.add]
theorem one_one (s : ByteArray) : ∀ u ∈ [Value.string s], u.oneCell' = true := by
  intro u hu; simp at hu; subst hu; rfl
/-- What a round's append leaves. -/
theorem cut_step {w wr w1 : World} {v : Value} {n : Nat} {xs : List Value} {o : Obj} {base : Nat} (hb : Below w.heap.size w wr) (hown : wr.ownsRow w.heap.size base 1 v n xs) (hg : (wr.alloc o).grownBy w1 v.ownBlock) : Below w.heap.size w w1 := by
  refine (hb.alloc hb.size o).grown hg (by have := hb.size; simp; omega) ?_
  intro k hk
  rcases hown.2 with ⟨rfl, _⟩ | ⟨g, cap, cur, rfl, hg', _⟩
  · simp [Value.ownBlock] at hk
  · simp [Value.ownBlock] at hk; omega

set_option maxRecDepth 100000 in
set_option maxHeartbeats 2000000 in
theorem refCut (s : ByteArray) (c : UInt8) (w : World) (hz : s.size ≤ 100000) :
    Calls Tryz.prog 37 #[.string s, .int .u8 c.toNat] w fun e w' => ∃ g cap, e = .returned (.slice (some ⟨g, 0, none⟩) (splitL c s.data.toList).length cap) ∧
      w'.ownsRow w.heap.size 9 1 (.slice (some ⟨g, 0, none⟩) (splitL c s.data.toList).length cap) (splitL c s.data.toList).length (strs (splitL c s.data.toList)) ∧ Below w.heap.size w w' := by
  obtain ⟨i0, hi, hz0, hz1, hz2⟩ := info_parts Tryz.infoStr
  go_enter Tryz.func37, Tryz.ntmps37
  go_wp2
  go_loopw [5, 6, 7] (fun v f i wr => ∃ k : Nat, k ≤ s.size ∧ i = .int .i64 k ∧ f = .int .i64 ((k - (sp c (s.data.toList.take k)).2.length : Nat) : Int) ∧ wr.ownsRow w.heap.size 9 1 v (sp c (s.data.toList.take k)).1.length (strs (sp c (s.data.toList.take k)).1) ∧ Below w.heap.size w wr) (fun _ _ i _ => s.size - (RowKit.intOf i).toNat)
  case atStart => exact ⟨0, Nat.zero_le _, rfl, rfl, World.ownsRow_nil _ _ _ _, Below.refl _ _⟩
  case round =>
    obtain ⟨k, hk, rfl, rfl, hown, hnx⟩ := hrel
    have hfa := sp_facts c (s.data.toList.take k)
    have htl : (s.data.toList.take k).length = k := by rw [List.length_take, size_len]; omega
    rw [htl] at hfa
    have hsz := hnx.size
    by_cases hlt : k < s.size
    · have HS : Hid (s.data.toList.take (k + 1) = s.data.toList.take k ++ [s[k]]) := take_snoc s k hlt
      have HX : Hid (s.extract (k - (sp c (s.data.toList.take k)).2.length) k = ⟨(sp c (s.data.toList.take k)).2.toArray⟩) := extract_cur s c k hk
      have hF : k - (sp c (s.data.toList.take k)).2.length ≤ k := Nat.sub_le _ _
      have hn1 := hfa.1
      have HF : Hid ((sp c (s.data.toList.take k)).2 = (s.data.toList.take k).drop (k - (sp c (s.data.toList.take k)).2.length)) := hfa.2
      clear hfa htl
      have HO : Hid (wr.ownsRow w.heap.size 9 1 _ (sp c (s.data.toList.take k)).1.length (strs (sp c (s.data.toList.take k)).1)) := hown
      generalize hFe : k - (sp c (s.data.toList.take k)).2.length = F at *
      have HE : Hid (k - (sp c (s.data.toList.take k)).2.length = F) := hFe
      clear hFe hown
      by_cases hc : s[k] = c
      · have hc' : ((s[k].toNat : Int) == (c.toNat : Int)) = true := by rw [hc]; simp
        have HC : Hid (s[k] = c) := hc
        clear hc
        go_wp2_with (at_builtin; refine wpList_append_own _ rfl (.tmp 19) (.tmp 24) 79 rfl w.heap.size 9 i0 (.string ⟨#[]⟩) 1 16 Tryz.underlying79 hi hz0 hz1 hz2 rfl (by decide) _ _ _ rfl (HO.out.alloc _) ⟨wr.heap.size, 0, none⟩ 1 1 [.string (s.extract F k)] rfl rfl (one_cell _ _ _ rfl) (one_one _) (by unfold maxLen; omega) (by omega) (by simp; omega) ?_; intro v' w1 hown' hgrow hnil)
        have hb' := cut_step hnx HO.out hgrow
        have e1 : sp c (s.data.toList.take (k + 1)) = ((sp c (s.data.toList.take k)).1 ++ [(sp c (s.data.toList.take k)).2], []) := by rw [HS.out, HC.out]; exact sp_hit c _
        have R : w1.ownsRow w.heap.size 9 1 v' (sp c (s.data.toList.take (k + 1))).1.length (strs (sp c (s.data.toList.take (k + 1))).1) := by
          rw [HX.out, strs_snoc] at hown'
          rw [e1]; simpa using hown'
        have R2 : (k + 1 - (sp c (s.data.toList.take (k + 1))).2.length : Nat) = k + 1 := by rw [e1]; simp
        clear hown' hgrow hnil e1
        go_roundw
        case rel => exact ⟨k + 1, by omega, by go_num, by rw [R2]; go_num, R, hb'⟩
        case measure => simp [RowKit.intOf]; omega
      · have hc' : ((s[k].toNat : Int) == (c.toNat : Int)) = false := by
          simp only [beq_eq_false_iff_ne, ne_eq, Int.natCast_inj]
          exact fun h => hc (UInt8.toNat_inj.1 h)
        have e1 : sp c (s.data.toList.take (k + 1)) = ((sp c (s.data.toList.take k)).1, (sp c (s.data.toList.take k)).2 ++ [s[k]]) := by rw [HS.out]; exact sp_miss _ hc
        have R : Hid (wr.ownsRow w.heap.size 9 1 u5 (sp c (s.data.toList.take (k + 1))).1.length (strs (sp c (s.data.toList.take (k + 1))).1)) := by
          show World.ownsRow _ _ _ _ _ _ _
          rw [e1]; exact HO.out
        have R2 : Hid ((k + 1 - (sp c (s.data.toList.take (k + 1))).2.length : Nat) = F) := by
          show _ = _
          rw [e1, ← HE.out]; simp
        clear e1 hc
        go_wp2
        go_roundw
        case rel => exact ⟨k + 1, by omega, by go_num, by rw [R2.out], R.out, hnx⟩
        case measure => simp [RowKit.intOf]; omega
    · have hks : k = s.size := by omega
      have HX : Hid (s.extract (k - (sp c (s.data.toList.take k)).2.length) s.size = ⟨(sp c (s.data.toList.take k)).2.toArray⟩) := by
        show _ = _
        have := extract_cur s c k hk
        rw [← hks]; exact this
      have HT : Hid (s.data.toList.take k = s.data.toList) := List.take_of_length_le (by rw [size_len]; omega)
      have hF : k - (sp c (s.data.toList.take k)).2.length ≤ s.size := by omega
      have hn1 := hfa.1
      have HO : Hid (wr.ownsRow w.heap.size 9 1 _ (sp c (s.data.toList.take k)).1.length (strs (sp c (s.data.toList.take k)).1)) := hown
      clear hfa htl hown hks
      generalize k - (sp c (s.data.toList.take k)).2.length = F at *
      go_wp2_with (at_builtin; refine wpList_append_lies _ rfl (.tmp 28) (.tmp 32) 79 rfl w.heap.size 9 i0 (.string ⟨#[]⟩) 1 16 Tryz.underlying79 hi hz0 hz1 hz2 rfl (by decide) _ _ _ rfl (HO.out.alloc _) ⟨wr.heap.size, 0, none⟩ 1 1 [.string (s.extract F s.size)] rfl rfl (one_cell _ _ _ rfl) (one_one _) (by decide) (by unfold maxLen; omega) (by omega) (by simp; omega) (wr.heap.size + 1) (by simp) ?_; intro g cap w1 hown' hgrow hlies hlt')
      have hb' := cut_step hnx HO.out hgrow
      have hlen : (splitL c s.data.toList).length = (sp c (s.data.toList.take k)).1.length + 1 := by rw [HT.out]; unfold splitL; simp
      rw [hlen]
      go_ret
      refine ⟨g, cap, rfl, ?_, hb'⟩
      rw [HX.out, strs_snoc, HT.out] at hown'
      rw [HT.out]
      exact hown'
end Go.Proofs.YtcipbkaopnaiiabGreatDoor
