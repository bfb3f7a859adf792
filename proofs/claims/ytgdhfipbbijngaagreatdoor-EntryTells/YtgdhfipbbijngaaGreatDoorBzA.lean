/-
  Plain mathematics of a text that is cut by a byte, and what the reference's Cut answers: the pieces in memory of its own; condition: the text has at most 100,000 bytes. What the reference's Cut answers: a slice of the pieces, in memory of the call's own; condition: the text has at most 100,000 bytes. What errors.As answers at an api.Fault and at an error of errors.New, over whatever world; conditions: the pointers' own cells, and the variable errors.errorType as the program lays it. What errors.Is answers at the sentinels of package api and at an api.Fault that wraps one of them, over whatever world; conditions: the pointers' own cells. What plain.Code tells of nil, of a sentinel of package api, of another error of errors.New, of an api.Fault; conditions: the sentinels' variables and errors.errorType as the program lays them. The sentinels of a check (ErrText, ErrBound, ErrName), the error of a number, small facts of texts that are cut: what the walks of places and of lots share.
-/
import Derived.Test.YtgdhfipbbijngaaGreatDoorBzN
import Derived.OwnWalk
import Derived.Deep.AppendLies
import Derived.WalkKit
import Derived.Test.YtgdhfipbbijngaaGreatDoorProg
import Derived.LaidEql
import Derived.Stop.Asserts
import Derived.RowKitTokens
import Derived.Below
import Derived.Handy
import Derived.Test.YtgdhfipbbijngaaGreatDoorBzP
import Derived.Lib.QuietBelow
import Derived.Laws.Concat
namespace Go.Proofs.YtgdhfipbbijngaaGreatDoor
open Go.RowKit Go.Lib Go.Sort

def stp (c : UInt8) (st : List (List UInt8) × List UInt8) (b : UInt8) : List (List UInt8) × List UInt8 := if b = c then (st.1 ++ [st.2], []) else (st.1, st.2 ++ [b])
def sp (c : UInt8) (l : List UInt8) : List (List UInt8) × List UInt8 := l.foldl (stp c) ([], [])
/-- The pieces of a text. -/
def splitL (c : UInt8) (l : List UInt8) : List (List UInt8) := (sp c l).1 ++ [(sp c l).2]
theorem sp_snoc (c : UInt8) (l : List UInt8) (b : UInt8) : sp c (l ++ [b]) = stp c (sp c l) b := by simp [sp, List.foldl_append]
theorem fold_facts (c : UInt8) : ∀ (l : List UInt8) (d : List (List UInt8)) (cur : List UInt8),
    (l.foldl (stp c) (d, cur)).1.length + (l.foldl (stp c) (d, cur)).2.length ≤ d.length + cur.length + l.length ∧ (l.foldl (stp c) (d, cur)).2 = (cur ++ l).drop ((cur ++ l).length - (l.foldl (stp c) (d, cur)).2.length)
  | [], d, cur => by simp
  | b :: l, d, cur => by
    rw [List.foldl_cons]
    by_cases h : b = c
    · have e : stp c (d, cur) b = (d ++ [cur], []) := by unfold stp; rw [if_pos h]
      rw [e]
      obtain ⟨h1, h2⟩ := fold_facts c l (d ++ [cur]) []
      generalize l.foldl (stp c) (d ++ [cur], []) = r at *
      simp only [List.nil_append, List.length_append, List.length_singleton, List.length_nil] at h1 h2
      have h3 : r.2.length ≤ l.length := by
        rw [h2, List.length_drop]; omega
      refine ⟨by simp; omega, ?_⟩
      have e2 : cur ++ b :: l = (cur ++ [b]) ++ l := by simp
      rw [e2]
      have e3 : ((cur ++ [b]) ++ l).length - r.2.length = (cur ++ [b]).length + (l.length - r.2.length) := by simp; omega
      rw [e3, List.drop_length_add_append]
      exact h2
    · have e : stp c (d, cur) b = (d, cur ++ [b]) := by unfold stp; rw [if_neg h]
      rw [e]
      obtain ⟨h1, h2⟩ := fold_facts c l d (cur ++ [b])
      have e2 : (cur ++ [b]) ++ l = cur ++ b :: l := by simp
      rw [e2] at h2
      refine ⟨?_, h2⟩
      simp only [List.length_append, List.length_cons, List.length_nil] at h1 ⊢
      omega
theorem sp_facts (c : UInt8) (l : List UInt8) : (sp c l).1.length + (sp c l).2.length ≤ l.length ∧ (sp c l).2 = l.drop (l.length - (sp c l).2.length) := by
  have := fold_facts c l [] []
  simp only [List.nil_append, List.length_nil, Nat.zero_add] at this
  exact this
theorem sp_hit (c : UInt8) (l : List UInt8) : sp c (l ++ [c]) = ((sp c l).1 ++ [(sp c l).2], []) := by rw [sp_snoc]; unfold stp; rw [if_pos rfl]
theorem sp_miss {c b : UInt8} (l : List UInt8) (h : b ≠ c) : sp c (l ++ [b]) = ((sp c l).1, (sp c l).2 ++ [b]) := by rw [sp_snoc]; unfold stp; rw [if_neg h]
theorem fold_gen (c : UInt8) : ∀ (l : List UInt8) (d : List (List UInt8)) (cur : List UInt8), l.foldl (stp c) (d, cur) = (d ++ (l.foldl (stp c) ([], cur)).1, (l.foldl (stp c) ([], cur)).2)
  | [], d, cur => by simp
  | b :: l, d, cur => by
    rw [List.foldl_cons, List.foldl_cons]
    by_cases h : b = c
    · have e : ∀ d, stp c (d, cur) b = (d ++ [cur], []) := fun d => by unfold stp; rw [if_pos h]
      rw [e, e, fold_gen c l, fold_gen c l ([] ++ [cur])]; simp
    · have e : ∀ d, stp c (d, cur) b = (d, cur ++ [b]) := fun d => by unfold stp; rw [if_neg h]
      rw [e, e, fold_gen c l]
theorem fold_none (c : UInt8) : ∀ (l : List UInt8) (cur : List UInt8), has c l = false → l.foldl (stp c) ([], cur) = ([], cur ++ l)
  | [], cur, _ => by simp
  | b :: l, cur, h => by
    unfold has at h
    simp only [List.any_cons, Bool.or_eq_false_iff] at h
    have hb : b ≠ c := by simpa using h.1
    rw [List.foldl_cons]
    have e : stp c ([], cur) b = ([], cur ++ [b]) := by unfold stp; rw [if_neg hb]
    rw [e, fold_none c l _ h.2]; simp
theorem has_parts (c : UInt8) : ∀ (l : List UInt8), has c l = true → l = pre c l ++ c :: post c l ∧ has c (pre c l) = false
  | [], h => by simp [has] at h
  | b :: l, h => by
    by_cases hb : b = c
    · subst hb; simp [pre, post, has]
    · have h' : has c l = true := by unfold has at *; simpa [hb] using h
      obtain ⟨e1, e2⟩ := has_parts c l h'
      have e3 : pre c (b :: l) = b :: pre c l := by unfold pre; simp [hb]
      have e4 : post c (b :: l) = post c l := by unfold post; simp [hb]
      rw [e3, e4]
      refine ⟨by rw [List.cons_append, ← e1], ?_⟩
      unfold has at *
      simp [hb]
      simpa using e2
theorem split_none {c : UInt8} {l : List UInt8} (h : has c l = false) : splitL c l = [l] := by
  unfold splitL sp; rw [fold_none c l [] h]; simp
theorem split_some {c : UInt8} {l : List UInt8} (h : has c l = true) : splitL c l = pre c l :: splitL c (post c l) := by
  obtain ⟨e1, e2⟩ := has_parts c l h
  have e : sp c l = (pre c l :: (sp c (post c l)).1, (sp c (post c l)).2) := by
    unfold sp
    conv => lhs; rw [e1]
    rw [List.foldl_append, fold_none c _ [] e2, List.foldl_cons]
    have e5 : stp c ([], [] ++ pre c l) c = ([pre c l], []) := by unfold stp; simp
    rw [e5, fold_gen]; simp
  unfold splitL
  rw [e]; simp
theorem split_length (c : UInt8) (l : List UInt8) : (splitL c l).length ≤ l.length + 1 := by
  unfold splitL
  have := (sp_facts c l).1
  simp; omega
theorem extract_cur (s : ByteArray) (c : UInt8) (k : Nat) (hk : k ≤ s.size) : s.extract (k - (sp c (s.data.toList.take k)).2.length) k = ⟨(sp c (s.data.toList.take k)).2.toArray⟩ := by
  have h := (sp_facts c (s.data.toList.take k)).2
  have hl : (s.data.toList.take k).length = k := by rw [List.length_take, size_len]; omega
  rw [hl] at h
  rw [extract_eq]
  have e : (s.data.toList.drop (k - (sp c (s.data.toList.take k)).2.length)).take (k - (k - (sp c (s.data.toList.take k)).2.length)) = (sp c (s.data.toList.take k)).2 := by
    rw [← List.drop_take]
    exact h.symm
  rw [e]
/-- Pieces as strings. -/
def strs (ps : List (List UInt8)) : List Value := ps.map fun p => .string ⟨p.toArray⟩
theorem strs_snoc (ps : List (List UInt8)) (p : List UInt8) : strs ps ++ [.string ⟨p.toArray⟩] = strs (ps ++ [p]) := by unfold strs; simp
theorem strs_length (ps : List (List UInt8)) : (strs ps).length = ps.length := by unfold strs; simp
end Go.Proofs.YtgdhfipbbijngaaGreatDoor
namespace Go.Proofs.YtgdhfipbbijngaaGreatDoor
open Go.RowKit Go.Lib Go.Sort

theorem Tryz.infoStr : (Tryz.prog.info? 9).map (fun i => (i.zero, i.size, i.bytes)) = some (some (.string ⟨#[]⟩), 1, 16) := by kernel_rfl
theorem one_cell {W : World} (v : Value) (t n : Nat) (hn : n = W.heap.size) : ∀ j u, [v][j]? = some u → (W.alloc (.cells #[v] t)).cell? ((⟨n, 0, none⟩ : Addr).add j) = some u := by
  intro j u hj
  match j, hj with
  | 0, hj =>
    simp at hj
    subst hj
    subst hn
    simp [Addr.add]
theorem one_one (s : ByteArray) : ∀ u ∈ [Value.string s], u.oneCell' = true := by
  intro u hu; simp at hu; subst hu; rfl
/-- What a round's append leaves. -/
theorem cut_step {w wr w1 : World} {v : Value} {n : Nat} {xs : List Value} {o : Obj} {base : Nat} (hb : Below w.heap.size w wr) (hown : wr.ownsRow w.heap.size base 1 v n xs) (hg : (wr.alloc o).grownBy w1 v.ownBlock) : Below w.heap.size w w1 := by
  refine (hb.alloc hb.size o).grown hg (by have := hb.size; simp; omega) ?_
  intro k hk
  rcases hown.2 with ⟨rfl, _⟩ | ⟨g, cap, cur, rfl, hg', _⟩
  · simp [Value.ownBlock] at hk
  · simp [Value.ownBlock] at hk; omega

set_option maxRecDepth 100000 in
set_option maxHeartbeats 2000000 in
theorem refCut (s : ByteArray) (c : UInt8) (w : World) (hz : s.size ≤ 100000) :
    Calls Tryz.prog 14 #[.string s, .int .u8 c.toNat] w fun e w' => ∃ g cap, e = .returned (.slice (some ⟨g, 0, none⟩) (splitL c s.data.toList).length cap) ∧
      w'.ownsRow w.heap.size 9 1 (.slice (some ⟨g, 0, none⟩) (splitL c s.data.toList).length cap) (splitL c s.data.toList).length (strs (splitL c s.data.toList)) ∧ Below w.heap.size w w' := by
  obtain ⟨i0, hi, hz0, hz1, hz2⟩ := info_parts Tryz.infoStr
  go_enter Tryz.func14, Tryz.ntmps14
  go_wp2
  go_loopw [5, 6, 7] (fun v f i wr => ∃ k : Nat, k ≤ s.size ∧ i = .int .i64 k ∧ f = .int .i64 ((k - (sp c (s.data.toList.take k)).2.length : Nat) : Int) ∧ wr.ownsRow w.heap.size 9 1 v (sp c (s.data.toList.take k)).1.length (strs (sp c (s.data.toList.take k)).1) ∧ Below w.heap.size w wr) (fun _ _ i _ => s.size - (RowKit.intOf i).toNat)
  case atStart => exact ⟨0, Nat.zero_le _, rfl, rfl, World.ownsRow_nil _ _ _ _, Below.refl _ _⟩
  case round =>
    obtain ⟨k, hk, rfl, rfl, hown, hnx⟩ := hrel
    have hfa := sp_facts c (s.data.toList.take k)
    have htl : (s.data.toList.take k).length = k := by rw [List.length_take, size_len]; omega
    rw [htl] at hfa
    have hsz := hnx.size
    by_cases hlt : k < s.size
    · have HS : Hid (s.data.toList.take (k + 1) = s.data.toList.take k ++ [s[k]]) := take_snoc s k hlt
      have HX : Hid (s.extract (k - (sp c (s.data.toList.take k)).2.length) k = ⟨(sp c (s.data.toList.take k)).2.toArray⟩) := extract_cur s c k hk
      have hF : k - (sp c (s.data.toList.take k)).2.length ≤ k := Nat.sub_le _ _
      have hn1 := hfa.1
      have HF : Hid ((sp c (s.data.toList.take k)).2 = (s.data.toList.take k).drop (k - (sp c (s.data.toList.take k)).2.length)) := hfa.2
      clear hfa htl
      have HO : Hid (wr.ownsRow w.heap.size 9 1 _ (sp c (s.data.toList.take k)).1.length (strs (sp c (s.data.toList.take k)).1)) := hown
      generalize hFe : k - (sp c (s.data.toList.take k)).2.length = F at *
      have HE : Hid (k - (sp c (s.data.toList.take k)).2.length = F) := hFe
      clear hFe hown
      by_cases hc : s[k] = c
      · have hc' : ((s[k].toNat : Int) == (c.toNat : Int)) = true := by rw [hc]; simp
        have HC : Hid (s[k] = c) := hc
        clear hc
        go_wp2_with (at_builtin; refine wpList_append_own _ rfl (.tmp 19) (.tmp 24) 42 rfl w.heap.size 9 i0 (.string ⟨#[]⟩) 1 16 Tryz.underlying42 hi hz0 hz1 hz2 rfl (by decide) _ _ _ rfl (HO.out.alloc _) ⟨wr.heap.size, 0, none⟩ 1 1 [.string (s.extract F k)] rfl rfl (one_cell _ _ _ rfl) (one_one _) (by unfold maxLen; omega) (by omega) (by simp; omega) ?_; intro v' w1 hown' hgrow hnil)
        have hb' := cut_step hnx HO.out hgrow
        have e1 : sp c (s.data.toList.take (k + 1)) = ((sp c (s.data.toList.take k)).1 ++ [(sp c (s.data.toList.take k)).2], []) := by rw [HS.out, HC.out]; exact sp_hit c _
        have R : w1.ownsRow w.heap.size 9 1 v' (sp c (s.data.toList.take (k + 1))).1.length (strs (sp c (s.data.toList.take (k + 1))).1) := by
          rw [HX.out, strs_snoc] at hown'
          rw [e1]; simpa using hown'
        have R2 : (k + 1 - (sp c (s.data.toList.take (k + 1))).2.length : Nat) = k + 1 := by rw [e1]; simp
        clear hown' hgrow hnil e1
        go_roundw
        case rel => exact ⟨k + 1, by omega, by go_num, by rw [R2]; go_num, R, hb'⟩
        case measure => simp [RowKit.intOf]; omega
      · have hc' : ((s[k].toNat : Int) == (c.toNat : Int)) = false := by
          simp only [beq_eq_false_iff_ne, ne_eq, Int.natCast_inj]
          exact fun h => hc (UInt8.toNat_inj.1 h)
        have e1 : sp c (s.data.toList.take (k + 1)) = ((sp c (s.data.toList.take k)).1, (sp c (s.data.toList.take k)).2 ++ [s[k]]) := by rw [HS.out]; exact sp_miss _ hc
        have R : Hid (wr.ownsRow w.heap.size 9 1 u5 (sp c (s.data.toList.take (k + 1))).1.length (strs (sp c (s.data.toList.take (k + 1))).1)) := by
          show World.ownsRow _ _ _ _ _ _ _
          rw [e1]; exact HO.out
        have R2 : Hid ((k + 1 - (sp c (s.data.toList.take (k + 1))).2.length : Nat) = F) := by
          show _ = _
          rw [e1, ← HE.out]; simp
        clear e1 hc
        go_wp2
        go_roundw
        case rel => exact ⟨k + 1, by omega, by go_num, by rw [R2.out], R.out, hnx⟩
        case measure => simp [RowKit.intOf]; omega
    · have hks : k = s.size := by omega
      have HX : Hid (s.extract (k - (sp c (s.data.toList.take k)).2.length) s.size = ⟨(sp c (s.data.toList.take k)).2.toArray⟩) := by
        show _ = _
        have := extract_cur s c k hk
        rw [← hks]; exact this
      have HT : Hid (s.data.toList.take k = s.data.toList) := List.take_of_length_le (by rw [size_len]; omega)
      have hF : k - (sp c (s.data.toList.take k)).2.length ≤ s.size := by omega
      have hn1 := hfa.1
      have HO : Hid (wr.ownsRow w.heap.size 9 1 _ (sp c (s.data.toList.take k)).1.length (strs (sp c (s.data.toList.take k)).1)) := hown
      clear hfa htl hown hks
      generalize k - (sp c (s.data.toList.take k)).2.length = F at *
      go_wp2_with (at_builtin; refine wpList_append_lies _ rfl (.tmp 28) (.tmp 32) 42 rfl w.heap.size 9 i0 (.string ⟨#[]⟩) 1 16 Tryz.underlying42 hi hz0 hz1 hz2 rfl (by decide) _ _ _ rfl (HO.out.alloc _) ⟨wr.heap.size, 0, none⟩ 1 1 [.string (s.extract F s.size)] rfl rfl (one_cell _ _ _ rfl) (one_one _) (by decide) (by unfold maxLen; omega) (by omega) (by simp; omega) (wr.heap.size + 1) (by simp) ?_; intro g cap w1 hown' hgrow hlies hlt')
      have hb' := cut_step hnx HO.out hgrow
      have hlen : (splitL c s.data.toList).length = (sp c (s.data.toList.take k)).1.length + 1 := by rw [HT.out]; unfold splitL; simp
      rw [hlen]
      go_ret
      refine ⟨g, cap, rfl, ?_, hb'⟩
      rw [HX.out, strs_snoc, HT.out] at hown'
      rw [HT.out]
      exact hown'
end Go.Proofs.YtgdhfipbbijngaaGreatDoor
namespace Go.Proofs.YtgdhfipbbijngaaGreatDoor
open Go.RowKit Go.Extern.Stop Go.Stop Go.Extern

theorem cell_lt {w : World} {t : Addr} {v : Value} (h : w.cell? t = some v) : t.block < w.heap.size := by
  rcases Nat.lt_or_ge t.block w.heap.size with h' | h'
  · exact h'
  · simp [World.cell?, Array.getElem?_eq_none h'] at h

theorem Tryz.eValueOf (t : Addr) (w : World) : (ReflectliteValue.unpack (.iface 66 (.pointer (some t)))).run Tryz.prog w
    = .ok (.agg #[.pointer (some ⟨19, 66, none⟩), .pointer (some ⟨w.heap.size, 0, none⟩), .int .u64 150]) (w.alloc (.cells #[.pointer (some t)] 66)) := by kernel_rfl
theorem Tryz.eType (a : Addr) (w : World) : (ReflectliteValue.methodAny (ReflectliteValue.valueError "reflectlite.Value.Type" 0) (fun t _ _ _ => ReflectliteType.toType t) #[.agg #[.pointer (some ⟨19, 66, none⟩), .pointer (some a), .int .u64 150]]).run Tryz.prog w
    = .ok (.iface 108 (.agg #[.pointer (some ⟨19, 66, none⟩)])) w := by kernel_rfl
theorem Tryz.eMethodKind (h : Value) (w : World) : (Go.method 285 108 (.agg #[h]) "Kind").run Tryz.prog w = .ok (108, h) w := by kernel_rfl
theorem Tryz.eKindPP (w : World) : ((ReflectliteType.abiMethod fun t => (fun a : Nat => Value.int IntKind.u8 (a : Int)) <$> Rtype.kind t) #[.pointer (some ⟨19, 66, none⟩)]).run Tryz.prog w = .ok (.int .u8 22) w := by kernel_rfl
theorem Tryz.eKindP (w : World) : ((ReflectliteType.abiMethod fun t => (fun a : Nat => Value.int IntKind.u8 (a : Int)) <$> Rtype.kind t) #[.pointer (some ⟨19, 64, none⟩)]).run Tryz.prog w = .ok (.int .u8 22) w := by kernel_rfl
theorem rlm (z : Sem Value) (f : TypeId → Addr → Nat → Nat → Sem Value) (v : Value) :
    ReflectliteValue.method z f #[v] = (do match ← ReflectliteValue.parts v with | none => z | some (t, a, fl) => f t a fl (fl % 32)) := rfl
theorem Tryz.ePartsPP (a : Addr) (w : World) : (ReflectliteValue.parts (.agg #[.pointer (some ⟨19, 66, none⟩), .pointer (some a), .int .u64 150])).run Tryz.prog w = .ok (some (66, a, 150)) w := by kernel_rfl
theorem Tryz.eIsNil (a p : Addr) (W : World) (ha : W.cell? a = some (.pointer (some p))) :
    (ReflectliteValue.method (ReflectliteValue.valueError "reflectlite.Value.IsNil" 0) ReflectliteValue.isNil #[.agg #[.pointer (some ⟨19, 66, none⟩), .pointer (some a), .int .u64 150]]).run Tryz.prog W = .ok (.bool false) W := by
  rw [rlm]
  simp only [Sem.run_bind, Tryz.ePartsPP, Result.andThen]
  simp [ReflectliteValue.isNil, loadVar, isAgg, underlying, Tryz.underlying66, ha, Result.andThen]
theorem Tryz.eMethodElem (h : Value) (w : World) : (Go.method 285 108 (.agg #[h]) "Elem").run Tryz.prog w = .ok (119, .agg #[h]) w := by kernel_rfl
theorem Tryz.eMethodImplements (h : Value) (w : World) : (Go.method 285 108 (.agg #[h]) "Implements").run Tryz.prog w = .ok (120, .agg #[h]) w := by kernel_rfl
theorem Tryz.eMethodAssignableTo (h : Value) (w : World) : (Go.method 285 108 (.agg #[h]) "AssignableTo").run Tryz.prog w = .ok (117, .agg #[h]) w := by kernel_rfl
theorem Tryz.eMethodComparable (v : Value) (w : World) : (Go.method 285 108 v "Comparable").run Tryz.prog w = .ok (118, v) w := by kernel_rfl
theorem Tryz.eElemPP (w : World) : (ReflectliteType.method ReflectliteType.elem #[.agg #[.pointer (some ⟨19, 66, none⟩)]]).run Tryz.prog w = .ok (.iface 108 (.agg #[.pointer (some ⟨19, 64, none⟩)])) w := by kernel_rfl
theorem Tryz.eImplements (w : World) : (ReflectliteType.relation "Implements" ReflectliteType.implements_ #[.agg #[.pointer (some ⟨19, 64, none⟩)], .iface 108 (.agg #[.pointer (some ⟨19, 33, none⟩)])]).run Tryz.prog w = .ok (.bool true) w := by kernel_rfl
theorem Tryz.eTypeOfF (v : Value) (w : World) : (ReflectliteType.typeOf #[.iface 64 v]).run Tryz.prog w = .ok (.iface 108 (.agg #[.pointer (some ⟨19, 64, none⟩)])) w := by kernel_rfl
theorem Tryz.eTypeOfE (v : Value) (w : World) : (ReflectliteType.typeOf #[.iface 152 v]).run Tryz.prog w = .ok (.iface 108 (.agg #[.pointer (some ⟨19, 152, none⟩)])) w := by kernel_rfl
theorem Tryz.eAssignF (w : World) : (ReflectliteType.relation "AssignableTo" ReflectliteType.assignableTo #[.agg #[.pointer (some ⟨19, 64, none⟩)], .iface 108 (.agg #[.pointer (some ⟨19, 64, none⟩)])]).run Tryz.prog w = .ok (.bool true) w := by kernel_rfl
theorem Tryz.eAssignE (w : World) : (ReflectliteType.relation "AssignableTo" ReflectliteType.assignableTo #[.agg #[.pointer (some ⟨19, 152, none⟩)], .iface 108 (.agg #[.pointer (some ⟨19, 64, none⟩)])]).run Tryz.prog w = .ok (.bool false) w := by kernel_rfl
theorem Tryz.eValueOfF (e : Addr) (w : World) : (ReflectliteValue.unpack (.iface 64 (.pointer (some e)))).run Tryz.prog w
    = .ok (.agg #[.pointer (some ⟨19, 64, none⟩), .pointer (some ⟨w.heap.size, 0, none⟩), .int .u64 150]) (w.alloc (.cells #[.pointer (some e)] 64)) := by kernel_rfl
theorem Tryz.eElemOfPP (w : World) : (Rtype.elem? 66).run Tryz.prog w = .ok (some 64) w := by kernel_rfl
theorem Tryz.eMkF (p : Addr) (w : World) : (ReflectliteValue.mk 64 p ReflectliteValue.flagAddr).run Tryz.prog w = .ok (.agg #[.pointer (some ⟨19, 64, none⟩), .pointer (some p), .int .u64 406]) w := by kernel_rfl
theorem Tryz.eElemV (a p : Addr) (W : World) (ha : W.cell? a = some (.pointer (some p))) :
    (ReflectliteValue.method (ReflectliteValue.valueError "reflectlite.Value.Elem" 0) ReflectliteValue.elem #[.agg #[.pointer (some ⟨19, 66, none⟩), .pointer (some a), .int .u64 150]]).run Tryz.prog W
      = .ok (.agg #[.pointer (some ⟨19, 64, none⟩), .pointer (some p), .int .u64 406]) W := by
  rw [rlm]
  simp only [Sem.run_bind, Tryz.ePartsPP, Result.andThen]
  simp [ReflectliteValue.elem, loadVar, isAgg, underlying, Tryz.underlying66, ha, Result.andThen, Tryz.eElemOfPP, Tryz.eMkF]
theorem rls (v x : Value) : ReflectliteValue.set #[v, x] = (do
    let (some (dst, a, fl), some (src, b, _)) := (← ReflectliteValue.parts v, ← ReflectliteValue.parts x)
      | unsupported (.noEntry "extern/(internal/reflectlite.Value).Set.zeroValue")
    if fl / ReflectliteValue.flagAddr % 2 == 0 then unsupported (.noEntry "extern/(internal/reflectlite.Value).Set.unaddressable")
    let val ← loadVar src b
    if ← Rtype.directlyAssignable dst src then storeVar dst a val
    else if ← Rtype.implements dst src then
      if (← Rtype.kind src) == 20 then
        match val with
        | .nilIface => unsupported (.noEntry "extern/reflectlite: a nil value of one interface type handed on as a value of another")
        | _ => storeVar dst a val
      else storeVar dst a (.iface src val)
    else panicString ("reflectlite.Set: value of type " ++ (← Rtype.spelt src) ++ " is not assignable to type " ++ (← Rtype.spelt dst))
    pure (.tuple #[])) := rfl
theorem Tryz.ePartsFa (a : Addr) (w : World) : (ReflectliteValue.parts (.agg #[.pointer (some ⟨19, 64, none⟩), .pointer (some a), .int .u64 406])).run Tryz.prog w = .ok (some (64, a, 406)) w := by kernel_rfl
theorem Tryz.ePartsF (a : Addr) (w : World) : (ReflectliteValue.parts (.agg #[.pointer (some ⟨19, 64, none⟩), .pointer (some a), .int .u64 150])).run Tryz.prog w = .ok (some (64, a, 150)) w := by kernel_rfl
theorem Tryz.eDirectF (w : World) : (Rtype.directlyAssignable 64 64).run Tryz.prog w = .ok true w := by kernel_rfl
theorem Tryz.eSet (ta b e : Addr) (old : Value) (W : World) (hb : W.cell? b = some (.pointer (some e))) (ht : W.cell? ta = some old) (hf : W.frozen? ta = false) :
    (ReflectliteValue.set #[.agg #[.pointer (some ⟨19, 64, none⟩), .pointer (some ta), .int .u64 406], .agg #[.pointer (some ⟨19, 64, none⟩), .pointer (some b), .int .u64 150]]).run Tryz.prog W
      = .ok (.tuple #[]) (W.setCell ta (.pointer (some e))) := by
  rw [rls]
  simp only [Sem.run_bind, Tryz.ePartsFa, Tryz.ePartsF, Result.andThen]
  simp [ReflectliteValue.flagAddr, loadVar, isAgg, underlying, Tryz.underlying64, hb, Result.andThen, Tryz.eDirectF, storeVar, Value.cells, storeCells, Addr.add]
  rw [run_store Tryz.prog W ta _ _ (by rfl)]
  simp [ht, hf]

/- the model's own entries, as the calls meet them -/
theorem Tryz.eCallValueOf (args : Array Value) (w : World) : (callFunc 51 args).run Tryz.prog w = (((fun args => ReflectliteValue.unpack (args.getD 0 (.tuple #[]))) args).run Tryz.prog w).andThen fun v w' => .ok (.value v) w' :=
  @run_callFunc_extern Tryz.prog 51 _ (fun args => ReflectliteValue.unpack (args.getD 0 (.tuple #[]))) Tryz.func51 (by kernel_rfl) (by kernel_rfl) (by kernel_rfl) (by kernel_rfl) args w
theorem Tryz.eCallType (args : Array Value) (w : World) : (callFunc 52 args).run Tryz.prog w = (((ReflectliteValue.methodAny (ReflectliteValue.valueError "reflectlite.Value.Type" 0) (fun t _ _ _ => ReflectliteType.toType t)) args).run Tryz.prog w).andThen fun v w' => .ok (.value v) w' :=
  @run_callFunc_extern Tryz.prog 52 _ (ReflectliteValue.methodAny (ReflectliteValue.valueError "reflectlite.Value.Type" 0) (fun t _ _ _ => ReflectliteType.toType t)) Tryz.func52 (by kernel_rfl) (by kernel_rfl) (by kernel_rfl) (by kernel_rfl) args w
theorem Tryz.eCallIsNil (args : Array Value) (w : World) : (callFunc 53 args).run Tryz.prog w = (((ReflectliteValue.method (ReflectliteValue.valueError "reflectlite.Value.IsNil" 0) ReflectliteValue.isNil) args).run Tryz.prog w).andThen fun v w' => .ok (.value v) w' :=
  @run_callFunc_extern Tryz.prog 53 _ (ReflectliteValue.method (ReflectliteValue.valueError "reflectlite.Value.IsNil" 0) ReflectliteValue.isNil) Tryz.func53 (by kernel_rfl) (by kernel_rfl) (by kernel_rfl) (by kernel_rfl) args w
theorem Tryz.eCallKind (args : Array Value) (w : World) : (callFunc 108 args).run Tryz.prog w = (((ReflectliteType.abiMethod fun t => do pure (.int .u8 (← Rtype.kind t))) args).run Tryz.prog w).andThen fun v w' => .ok (.value v) w' :=
  @run_callFunc_extern Tryz.prog 108 _ (ReflectliteType.abiMethod fun t => do pure (.int .u8 (← Rtype.kind t))) Tryz.func108 (by kernel_rfl) (by kernel_rfl) (by kernel_rfl) (by kernel_rfl) args w
theorem Tryz.eCallElem (args : Array Value) (w : World) : (callFunc 119 args).run Tryz.prog w = (((ReflectliteType.method ReflectliteType.elem) args).run Tryz.prog w).andThen fun v w' => .ok (.value v) w' :=
  @run_callFunc_extern Tryz.prog 119 _ (ReflectliteType.method ReflectliteType.elem) Tryz.func119 (by kernel_rfl) (by kernel_rfl) (by kernel_rfl) (by kernel_rfl) args w
theorem Tryz.eCallImplements (args : Array Value) (w : World) : (callFunc 120 args).run Tryz.prog w = (((ReflectliteType.relation "Implements" ReflectliteType.implements_) args).run Tryz.prog w).andThen fun v w' => .ok (.value v) w' :=
  @run_callFunc_extern Tryz.prog 120 _ (ReflectliteType.relation "Implements" ReflectliteType.implements_) Tryz.func120 (by kernel_rfl) (by kernel_rfl) (by kernel_rfl) (by kernel_rfl) args w
theorem Tryz.eCallTypeOf (args : Array Value) (w : World) : (callFunc 55 args).run Tryz.prog w = ((ReflectliteType.typeOf args).run Tryz.prog w).andThen fun v w' => .ok (.value v) w' :=
  @run_callFunc_extern Tryz.prog 55 _ ReflectliteType.typeOf Tryz.func55 (by kernel_rfl) (by kernel_rfl) (by kernel_rfl) (by kernel_rfl) args w
theorem Tryz.eCallAssignableTo (args : Array Value) (w : World) : (callFunc 117 args).run Tryz.prog w = (((ReflectliteType.relation "AssignableTo" ReflectliteType.assignableTo) args).run Tryz.prog w).andThen fun v w' => .ok (.value v) w' :=
  @run_callFunc_extern Tryz.prog 117 _ (ReflectliteType.relation "AssignableTo" ReflectliteType.assignableTo) Tryz.func117 (by kernel_rfl) (by kernel_rfl) (by kernel_rfl) (by kernel_rfl) args w
theorem Tryz.eCallElemV (args : Array Value) (w : World) : (callFunc 66 args).run Tryz.prog w = (((ReflectliteValue.method (ReflectliteValue.valueError "reflectlite.Value.Elem" 0) ReflectliteValue.elem) args).run Tryz.prog w).andThen fun v w' => .ok (.value v) w' :=
  @run_callFunc_extern Tryz.prog 66 _ (ReflectliteValue.method (ReflectliteValue.valueError "reflectlite.Value.Elem" 0) ReflectliteValue.elem) Tryz.func66 (by kernel_rfl) (by kernel_rfl) (by kernel_rfl) (by kernel_rfl) args w
theorem Tryz.eCallSet (args : Array Value) (w : World) : (callFunc 67 args).run Tryz.prog w = ((ReflectliteValue.set args).run Tryz.prog w).andThen fun v w' => .ok (.value v) w' :=
  @run_callFunc_extern Tryz.prog 67 _ ReflectliteValue.set Tryz.func67 (by kernel_rfl) (by kernel_rfl) (by kernel_rfl) (by kernel_rfl) args w
theorem Tryz.eCallComparable (w : World) : (callFunc 118 #[.agg #[.pointer (some ⟨19, 152, none⟩)]]).run Tryz.prog w = .ok (.value (.bool true)) w := by
  rw [@run_callFunc_extern Tryz.prog 118 _ (ReflectliteType.method fun t => do Rtype.noPackHeld "Comparable" t; pure (.bool (← typeInfo t).comparable)) Tryz.func118 (by kernel_rfl) (by kernel_rfl) (by kernel_rfl) (by kernel_rfl)]
  kernel_rfl

/- the assertions of errors.as and errors.is -/
theorem Tryz.eNoAsE (v : Value) (xT : TypeId) (w : World) : (Instr.typeAssert (.iface 152 v) xT 112 true).run Tryz.prog w = .ok (.tuple #[.nilIface, .bool false]) w := run_typeAssert_lacksB Tryz.underlying112 (by kernel_rfl) (by kernel_rfl) v xT w
theorem Tryz.eNoIsE (v : Value) (xT : TypeId) (w : World) : (Instr.typeAssert (.iface 152 v) xT 119 true).run Tryz.prog w = .ok (.tuple #[.nilIface, .bool false]) w := run_typeAssert_lacksB Tryz.underlying119 (by kernel_rfl) (by kernel_rfl) v xT w
theorem Tryz.eNoUnwrapE (v : Value) (xT : TypeId) (w : World) : (Instr.typeAssert (.iface 152 v) xT 115 true).run Tryz.prog w = .ok (.tuple #[.nilIface, .bool false]) w := run_typeAssert_lacksB Tryz.underlying115 (by kernel_rfl) (by kernel_rfl) v xT w
theorem Tryz.eNoUnwrapsE (v : Value) (xT : TypeId) (w : World) : (Instr.typeAssert (.iface 152 v) xT 117 true).run Tryz.prog w = .ok (.tuple #[.nilIface, .bool false]) w := run_typeAssert_lacksB Tryz.underlying117 (by kernel_rfl) (by kernel_rfl) v xT w
theorem Tryz.eNoIsF (v : Value) (xT : TypeId) (w : World) : (Instr.typeAssert (.iface 64 v) xT 119 true).run Tryz.prog w = .ok (.tuple #[.nilIface, .bool false]) w := run_typeAssert_lacksB Tryz.underlying119 (by kernel_rfl) (by kernel_rfl) v xT w
theorem Tryz.eHasUnwrapF (v : Value) (xT : TypeId) (w : World) : (Instr.typeAssert (.iface 64 v) xT 115 true).run Tryz.prog w = .ok (.tuple #[.iface 64 v, .bool true]) w := run_typeAssert_hasB Tryz.underlying115 (by kernel_rfl) v xT w
theorem Tryz.eMethodUnwrap (v : Value) (w : World) : (Go.method 285 64 v "Unwrap").run Tryz.prog w = .ok (112, v) w := by kernel_rfl
theorem Tryz.eComp : (Tryz.prog.info? 152).map (·.comparable) = some true := by kernel_rfl
theorem Tryz.eSize : (Tryz.prog.info? 173).map (·.size) = some 1 ∨ (Tryz.prog.info? 173).map (·.size) = some 16 := by first | exact Or.inl (by kernel_rfl) | exact Or.inr (by kernel_rfl)

set_option maxHeartbeats 4000000 in
/-- errors.As at an api.Fault: true, and the target holds it. -/
theorem as_hit (e t : Addr) (old : Value) (w : World) (hg : w.cell? ⟨12, 0, none⟩ = some (.iface 108 (.agg #[.pointer (some ⟨19, 33, none⟩)]))) (ht0 : w.cell? t = some old) (hf0 : w.frozen? t = false) :
    Calls Tryz.prog 38 #[.iface 64 (.pointer (some e)), .iface 66 (.pointer (some t))] w fun ev w' => ev = .returned (.bool true) ∧ w' = ((((w.alloc (.cells #[.pointer (some t)] 66)).alloc (.cells #[.pointer (some ⟨19, 66, none⟩), .pointer (some ⟨w.heap.size, 0, none⟩), .int .u64 150] 87)).alloc (.cells #[.pointer (some ⟨19, 66, none⟩), .pointer (some ⟨w.heap.size, 0, none⟩), .int .u64 150] 87)).alloc (.cells #[.pointer (some e)] 64)).setCell t (.pointer (some e)) := by
  have h1 := Tryz.eCallValueOf
  have h2 := Tryz.eCallType
  have h3 := Tryz.eCallIsNil
  have h4 := Tryz.eCallKind
  have h5 := Tryz.eCallElem
  have h6 := Tryz.eCallImplements
  have h7 := Tryz.eCallTypeOf
  have h8 := Tryz.eCallAssignableTo
  have h9 := Tryz.eCallElemV
  have h10 := Tryz.eCallSet
  have tO := Tryz.eTypeOfF
  have mA := Tryz.eMethodAssignableTo
  have a25 := Tryz.eAssignF
  have v25 := Tryz.eValueOfF
  have f6 := Tryz.eValueOf
  have f7 := Tryz.eType
  have mK := Tryz.eMethodKind
  have mE := Tryz.eMethodElem
  have mI := Tryz.eMethodImplements
  have k27 := Tryz.eKindPP
  have k25 := Tryz.eKindP
  have e27 := Tryz.eElemPP
  have i25 := Tryz.eImplements
  have n8 := Tryz.eIsNil ⟨w.heap.size, 0, none⟩ t ((w.alloc (.cells #[.pointer (some t)] 66)).alloc (.cells #[.pointer (some ⟨19, 66, none⟩), .pointer (some ⟨w.heap.size, 0, none⟩), .int .u64 150] 87)) (by simp)
  have hlt : 12 < w.heap.size := cell_lt hg
  have hg2 : ((w.alloc (.cells #[.pointer (some t)] 66)).alloc (.cells #[.pointer (some ⟨19, 66, none⟩), .pointer (some ⟨w.heap.size, 0, none⟩), .int .u64 150] 87)).cell? ⟨12, 0, none⟩ = some (.iface 108 (.agg #[.pointer (some ⟨19, 33, none⟩)])) := by
    rw [World.cell?_alloc_lt _ _ ⟨12, 0, none⟩ (by simp; omega), World.cell?_alloc_lt _ _ ⟨12, 0, none⟩ hlt]; exact hg
  have htl : t.block < w.heap.size := cell_lt ht0
  have el := Tryz.eElemV ⟨w.heap.size, 0, none⟩ t (((w.alloc (.cells #[.pointer (some t)] 66)).alloc (.cells #[.pointer (some ⟨19, 66, none⟩), .pointer (some ⟨w.heap.size, 0, none⟩), .int .u64 150] 87)).alloc (.cells #[.pointer (some ⟨19, 66, none⟩), .pointer (some ⟨w.heap.size, 0, none⟩), .int .u64 150] 87)) (by rw [World.cell?_alloc_lt _ _ ⟨w.heap.size, 0, none⟩ (by simp; omega)]; simp)
  have st := Tryz.eSet t ⟨w.heap.size + 1 + 1 + 1, 0, none⟩ e old ((((w.alloc (.cells #[.pointer (some t)] 66)).alloc (.cells #[.pointer (some ⟨19, 66, none⟩), .pointer (some ⟨w.heap.size, 0, none⟩), .int .u64 150] 87)).alloc (.cells #[.pointer (some ⟨19, 66, none⟩), .pointer (some ⟨w.heap.size, 0, none⟩), .int .u64 150] 87)).alloc (.cells #[.pointer (some e)] 64))
    (by rw [World.cell?_alloc_at _ _ _ _ (by simp)]; rfl)
    (by rw [World.cell?_alloc_lt _ _ t (by simp; omega), World.cell?_alloc_lt _ _ t (by simp; omega), World.cell?_alloc_lt _ _ t (by simp; omega), World.cell?_alloc_lt _ _ t htl]; exact ht0)
    (by rw [World.frozen?_alloc_old _ _ t (by simp; omega), World.frozen?_alloc_old _ _ t (by simp; omega), World.frozen?_alloc_old _ _ t (by simp; omega), World.frozen?_alloc_old _ _ t (Nat.ne_of_lt htl)]; exact hf0)
  go_enter Tryz.func38, Tryz.ntmps38
  go_wp2
  refine wp_loop_rounds 1 ?_
  rw [rounds_succ]
  go_wp2
  go_ret
  exact ⟨rfl, rfl⟩

set_option maxHeartbeats 4000000 in
/-- errors.As at an error of errors.New: false. -/
theorem as_miss (e t : Addr) (w : World) (hg : w.cell? ⟨12, 0, none⟩ = some (.iface 108 (.agg #[.pointer (some ⟨19, 33, none⟩)]))) :
    Calls Tryz.prog 38 #[.iface 152 (.pointer (some e)), .iface 66 (.pointer (some t))] w fun ev w' => ev = .returned (.bool false) ∧ w' = ((w.alloc (.cells #[.pointer (some t)] 66)).alloc (.cells #[.pointer (some ⟨19, 66, none⟩), .pointer (some ⟨w.heap.size, 0, none⟩), .int .u64 150] 87)).alloc (.cells #[.pointer (some ⟨19, 66, none⟩), .pointer (some ⟨w.heap.size, 0, none⟩), .int .u64 150] 87) := by
  have h1 := Tryz.eCallValueOf
  have h2 := Tryz.eCallType
  have h3 := Tryz.eCallIsNil
  have h4 := Tryz.eCallKind
  have h5 := Tryz.eCallElem
  have h6 := Tryz.eCallImplements
  have h7 := Tryz.eCallTypeOf
  have h8 := Tryz.eCallAssignableTo
  have tO := Tryz.eTypeOfE
  have mA := Tryz.eMethodAssignableTo
  have a25 := Tryz.eAssignE
  have f6 := Tryz.eValueOf
  have f7 := Tryz.eType
  have mK := Tryz.eMethodKind
  have mE := Tryz.eMethodElem
  have mI := Tryz.eMethodImplements
  have k27 := Tryz.eKindPP
  have k25 := Tryz.eKindP
  have e27 := Tryz.eElemPP
  have i25 := Tryz.eImplements
  have nA := Tryz.eNoAsE
  have uE := Tryz.eNoUnwrapE
  have vE := Tryz.eNoUnwrapsE
  have n8 := Tryz.eIsNil ⟨w.heap.size, 0, none⟩ t ((w.alloc (.cells #[.pointer (some t)] 66)).alloc (.cells #[.pointer (some ⟨19, 66, none⟩), .pointer (some ⟨w.heap.size, 0, none⟩), .int .u64 150] 87)) (by simp)
  have hlt : 12 < w.heap.size := cell_lt hg
  have hg2 : ((w.alloc (.cells #[.pointer (some t)] 66)).alloc (.cells #[.pointer (some ⟨19, 66, none⟩), .pointer (some ⟨w.heap.size, 0, none⟩), .int .u64 150] 87)).cell? ⟨12, 0, none⟩ = some (.iface 108 (.agg #[.pointer (some ⟨19, 33, none⟩)])) := by
    rw [World.cell?_alloc_lt _ _ ⟨12, 0, none⟩ (by simp; omega), World.cell?_alloc_lt _ _ ⟨12, 0, none⟩ hlt]; exact hg
  go_enter Tryz.func38, Tryz.ntmps38
  go_wp2
  refine wp_loop_rounds 1 ?_
  rw [rounds_succ]
  go_wp2
  go_ret
  exact ⟨rfl, rfl⟩

end Go.Proofs.YtgdhfipbbijngaaGreatDoor
namespace Go.Proofs.YtgdhfipbbijngaaGreatDoor
open Go.RowKit Go.Extern.Stop Go.Stop Go.Extern

/-- errors.Is(x, x). -/
theorem is_same (a : Addr) (w : World) :
    Calls Tryz.prog 39 #[.iface 152 (.pointer (some a)), .iface 152 (.pointer (some a))] w fun e w' => e = .returned (.bool true) ∧ w' = w := by
  obtain ⟨i, hi, hcmp⟩ := Option.map_eq_some_iff.1 Tryz.eComp
  obtain ⟨j, hj, hjs⟩ : ∃ j, Tryz.prog.info? 173 = some j ∧ j.size ≠ 0 := by
    rcases Tryz.eSize with h | h <;> obtain ⟨j, hj, hjs⟩ := Option.map_eq_some_iff.1 h <;> exact ⟨j, hj, by rw [hjs]; decide⟩
  have h8 := Tryz.eCallTypeOf
  have h32 := Tryz.eCallComparable
  have tT := Tryz.eTypeOfE
  have mR := Tryz.eMethodComparable
  have heq := run_eql_iface_ptr_same (P := Tryz.prog) w a Tryz.underlying33 Tryz.underlying152 hi hcmp hj
  go_enter Tryz.func39, Tryz.ntmps39
  go_wp2
  refine wp_loop_rounds 1 ?_
  rw [rounds_succ]
  go_wp2
  go_ret
  exact ⟨rfl, rfl⟩

/-- errors.Is(x, y), two errors of errors.New at unlike places. -/
theorem is_other (a b : Addr) (ca cb : Array Value) (ta tb : TypeId) (w : World) (hne : a ≠ b) (ha : w.heap[a.block]? = some (.cells ca ta (0, 0))) (hb : w.heap[b.block]? = some (.cells cb tb (0, 0))) :
    Calls Tryz.prog 39 #[.iface 152 (.pointer (some a)), .iface 152 (.pointer (some b))] w fun e w' => e = .returned (.bool false) ∧ w' = w := by
  obtain ⟨i, hi, hcmp⟩ := Option.map_eq_some_iff.1 Tryz.eComp
  obtain ⟨j, hj, hjs⟩ : ∃ j, Tryz.prog.info? 173 = some j ∧ j.size ≠ 0 := by
    rcases Tryz.eSize with h | h <;> obtain ⟨j, hj, hjs⟩ := Option.map_eq_some_iff.1 h <;> exact ⟨j, hj, by rw [hjs]; decide⟩
  have h8 := Tryz.eCallTypeOf
  have h32 := Tryz.eCallComparable
  have tT := Tryz.eTypeOfE
  have mR := Tryz.eMethodComparable
  have nE := Tryz.eNoIsE
  have uE := Tryz.eNoUnwrapE
  have vE := Tryz.eNoUnwrapsE
  have heq := run_eql_iface_ptr_other (P := Tryz.prog) w Tryz.underlying33 Tryz.underlying152 hi hcmp hj hjs hne ha hb
  go_enter Tryz.func39, Tryz.ntmps39
  go_wp2
  refine wp_loop_rounds 1 ?_
  rw [rounds_succ]
  go_wp2
  go_ret
  exact ⟨rfl, rfl⟩

/-- errors.Is(f, x), f an api.Fault that wraps x. -/
theorem is_wrap_same (pb po : Nat) (b : Addr) (w : World) (h1 : w.cell? ⟨pb, po + 1, none⟩ = some (.iface 152 (.pointer (some b)))) :
    Calls Tryz.prog 39 #[.iface 64 (.pointer (some ⟨pb, po, none⟩)), .iface 152 (.pointer (some b))] w fun e w' => e = .returned (.bool true) ∧ w' = w := by
  obtain ⟨i, hi, hcmp⟩ := Option.map_eq_some_iff.1 Tryz.eComp
  obtain ⟨j, hj, hjs⟩ : ∃ j, Tryz.prog.info? 173 = some j ∧ j.size ≠ 0 := by
    rcases Tryz.eSize with h | h <;> obtain ⟨j, hj, hjs⟩ := Option.map_eq_some_iff.1 h <;> exact ⟨j, hj, by rw [hjs]; decide⟩
  have h8 := Tryz.eCallTypeOf
  have h32 := Tryz.eCallComparable
  have tT := Tryz.eTypeOfE
  have mR := Tryz.eMethodComparable
  have nW := Tryz.eNoIsF
  have uW := Tryz.eHasUnwrapF
  have mU := Tryz.eMethodUnwrap
  have heq := run_eql_iface_ptr_same (P := Tryz.prog) w b Tryz.underlying33 Tryz.underlying152 hi hcmp hj
  have hty := run_eql_iface_types (P := Tryz.prog) 64 152 (.pointer (some ⟨pb, po, none⟩)) (.pointer (some b)) Tryz.underlying33 (by decide) w
  go_enter Tryz.func39, Tryz.ntmps39
  go_wp2
  refine wp_loop_rounds 2 ?_
  rw [rounds_succ]
  go_wp2
  rw [rounds_succ]
  go_wp2
  go_ret
  exact ⟨rfl, rfl⟩

/-- errors.Is(f, x), f an api.Fault that wraps another one. -/
theorem is_wrap_other (pb po : Nat) (b a : Addr) (ca cb : Array Value) (ta tb : TypeId) (w : World) (h1 : w.cell? ⟨pb, po + 1, none⟩ = some (.iface 152 (.pointer (some a)))) (hne : a ≠ b) (ha : w.heap[a.block]? = some (.cells ca ta (0, 0))) (hb : w.heap[b.block]? = some (.cells cb tb (0, 0))) :
    Calls Tryz.prog 39 #[.iface 64 (.pointer (some ⟨pb, po, none⟩)), .iface 152 (.pointer (some b))] w fun e w' => e = .returned (.bool false) ∧ w' = w := by
  obtain ⟨i, hi, hcmp⟩ := Option.map_eq_some_iff.1 Tryz.eComp
  obtain ⟨j, hj, hjs⟩ : ∃ j, Tryz.prog.info? 173 = some j ∧ j.size ≠ 0 := by
    rcases Tryz.eSize with h | h <;> obtain ⟨j, hj, hjs⟩ := Option.map_eq_some_iff.1 h <;> exact ⟨j, hj, by rw [hjs]; decide⟩
  have h8 := Tryz.eCallTypeOf
  have h32 := Tryz.eCallComparable
  have tT := Tryz.eTypeOfE
  have mR := Tryz.eMethodComparable
  have nE := Tryz.eNoIsE
  have uE := Tryz.eNoUnwrapE
  have vE := Tryz.eNoUnwrapsE
  have nW := Tryz.eNoIsF
  have uW := Tryz.eHasUnwrapF
  have mU := Tryz.eMethodUnwrap
  have heq := run_eql_iface_ptr_other (P := Tryz.prog) w Tryz.underlying33 Tryz.underlying152 hi hcmp hj hjs hne ha hb
  have hty := run_eql_iface_types (P := Tryz.prog) 64 152 (.pointer (some ⟨pb, po, none⟩)) (.pointer (some b)) Tryz.underlying33 (by decide) w
  go_enter Tryz.func39, Tryz.ntmps39
  go_wp2
  refine wp_loop_rounds 2 ?_
  rw [rounds_succ]
  go_wp2
  rw [rounds_succ]
  go_wp2
  go_ret
  exact ⟨rfl, rfl⟩

end Go.Proofs.YtgdhfipbbijngaaGreatDoor
namespace Go.Proofs.YtgdhfipbbijngaaGreatDoor
open Go.RowKit Go.Extern.Stop Go.Stop Go.Extern

abbrev err (a : Addr) : Value := .iface 152 (.pointer (some a))
def gOf (i : Nat) : Nat := [1, 2, 0, 3, 4, 5, 6, 7, 8, 9, 10, 11].getD i 0
/-- The twelve sentinels' variables hold twelve pointers, none twice. -/
structure Sent (w : World) (s : Nat → Addr) : Prop where
  cell : ∀ i, i < 12 → w.cell? ⟨gOf i, 0, none⟩ = some (err (s i))
  block : ∀ i, i < 12 → ∃ c t, w.heap[(s i).block]? = some (.cells c t (0, 0))
  inj : ∀ i j, i < 12 → j < 12 → s i = s j → i = j
/-- The variable errors.errorType is laid. -/
def Handle (w : World) : Prop := w.cell? ⟨12, 0, none⟩ = some (.iface 108 (.agg #[.pointer (some ⟨19, 33, none⟩)]))

theorem block_lt {w : World} {b : Nat} {o : Obj} (h : w.heap[b]? = some o) : b < w.heap.size := by
  rcases Nat.lt_or_ge b w.heap.size with h' | h'
  · exact h'
  · simp [Array.getElem?_eq_none h'] at h
theorem Sent.below {w w' : World} {s : Nat → Addr} (h : Sent w s) (hb : Below w.heap.size w w') : Sent w' s where
  cell i hi := by rw [hb.cell (p := ⟨gOf i, 0, none⟩) (cell_lt (h.cell i hi))]; exact h.cell i hi
  block i hi := by
    obtain ⟨c, t, hc⟩ := h.block i hi
    exact ⟨c, t, by rw [hb.block _ (block_lt hc)]; exact hc⟩
  inj := h.inj
theorem Sent.cells {w : World} {s : Nat → Addr} (h : Sent w s) : w.cell? ⟨1, 0, none⟩ = some (err (s 0)) ∧ w.cell? ⟨2, 0, none⟩ = some (err (s 1)) ∧ w.cell? ⟨0, 0, none⟩ = some (err (s 2)) ∧ w.cell? ⟨3, 0, none⟩ = some (err (s 3)) ∧ w.cell? ⟨4, 0, none⟩ = some (err (s 4)) ∧ w.cell? ⟨5, 0, none⟩ = some (err (s 5)) ∧ w.cell? ⟨6, 0, none⟩ = some (err (s 6)) ∧ w.cell? ⟨7, 0, none⟩ = some (err (s 7)) ∧ w.cell? ⟨8, 0, none⟩ = some (err (s 8)) ∧ w.cell? ⟨9, 0, none⟩ = some (err (s 9)) ∧ w.cell? ⟨10, 0, none⟩ = some (err (s 10)) ∧ w.cell? ⟨11, 0, none⟩ = some (err (s 11)) :=
  ⟨h.cell 0 (by decide), h.cell 1 (by decide), h.cell 2 (by decide), h.cell 3 (by decide), h.cell 4 (by decide), h.cell 5 (by decide), h.cell 6 (by decide), h.cell 7 (by decide), h.cell 8 (by decide), h.cell 9 (by decide), h.cell 10 (by decide), h.cell 11 (by decide)⟩
theorem Handle.below {w w' : World} (h : Handle w) (hb : Below w.heap.size w w') : Handle w' := by
  unfold Handle at *
  rw [hb.cell (p := ⟨12, 0, none⟩) (cell_lt h)]; exact h

theorem code_nil (w : World) : Calls Tryz.prog 21 #[.nilIface] w fun e w' => e = .returned (.tuple #[.int .i64 0, .int .i64 (-1)]) ∧ w' = w := by
  go_enter Tryz.func21, Tryz.ntmps21
  go_wp2
  go_ret2
  exact ⟨rfl, rfl⟩

set_option maxHeartbeats 1000000 in
theorem code_err (a : Addr) (w : World) (s : Nat → Addr) (hs : Sent w s) (hh : Handle w) (ca : Array Value) (ta : TypeId) (ha : w.heap[a.block]? = some (.cells ca ta (0, 0))) :
    Calls Tryz.prog 21 #[err a] w fun e w' => (∃ c : Int, e = .returned (.tuple #[.int .i64 c, .int .i64 (-1)]) ∧ ((∃ i, i < 12 ∧ s i = a ∧ c = i + 1) ∨ ((∀ i, i < 12 → s i ≠ a) ∧ c = -1))) ∧ Below w.heap.size w w' := by
  have hsz := cell_lt hh
  have hA : ∀ t, Calls Tryz.prog 38 #[err a, .iface 66 (.pointer (some t))] (w.alloc (.cells #[.pointer none] 64)) fun ev w' => ev = .returned (.bool false) ∧ Below (w.alloc (.cells #[.pointer none] 64)).heap.size (w.alloc (.cells #[.pointer none] 64)) w' := fun t => by
    refine (as_miss a t _ (hh.below (Below.refl _ _ |>.alloc (Nat.le_refl _) _))).mono ?_
    rintro e w' ⟨rfl, rfl⟩
    exact ⟨rfl, (((Below.refl _ _).alloc (by simp) _).alloc (by simp) _).alloc (by simp) _⟩
  go_enter Tryz.func21, Tryz.ntmps21
  go_wp2_with (go_at_call 38; refine (hA _).mono ?_; rintro e w1 ⟨rfl, hb⟩; have hb0 : Below w.heap.size w w1 := ((Below.refl _ _).alloc (Nat.le_refl _) _).trans (hb.mono (by simp)); obtain ⟨c0, c1, c2, c3, c4, c5, c6, c7, c8, c9, c10, c11⟩ := (hs.below hb0).cells)
  have hs2 : Sent (w1.alloc (.cells #[err (s 0), err (s 1), err (s 2), err (s 3), err (s 4), err (s 5), err (s 6), err (s 7), err (s 8), err (s 9), err (s 10), err (s 11)] 33)) s := (hs.below hb0).below ((Below.refl _ _).alloc (Nat.le_refl _) _)
  have hb2 : Below w.heap.size w (w1.alloc (.cells #[err (s 0), err (s 1), err (s 2), err (s 3), err (s 4), err (s 5), err (s 6), err (s 7), err (s 8), err (s 9), err (s 10), err (s 11)] 33)) := hb0.alloc hb0.size _
  have hk2 : ∀ k, k < 12 → (w1.alloc (.cells #[err (s 0), err (s 1), err (s 2), err (s 3), err (s 4), err (s 5), err (s 6), err (s 7), err (s 8), err (s 9), err (s 10), err (s 11)] 33)).cell? ⟨w1.heap.size, k, none⟩ = some (err (s k)) := fun k hk => by
    rcases k with _ | _ | _ | _ | _ | _ | _ | _ | _ | _ | _ | _ | k <;> first | omega | simp
  have ha2 : (w1.alloc (.cells #[err (s 0), err (s 1), err (s 2), err (s 3), err (s 4), err (s 5), err (s 6), err (s 7), err (s 8), err (s 9), err (s 10), err (s 11)] 33)).heap[a.block]? = some (.cells ca ta (0, 0)) := by rw [hb2.block _ (block_lt ha)]; exact ha
  clear c0 c1 c2 c3 c4 c5 c6 c7 c8 c9 c10 c11 hb hA
  generalize (w1.alloc (.cells #[err (s 0), err (s 1), err (s 2), err (s 3), err (s 4), err (s 5), err (s 6), err (s 7), err (s 8), err (s 9), err (s 10), err (s 11)] 33)) = W2 at hs2 hb2 hk2 ha2 ⊢
  go_loop [3, 30] (fun c i => ∃ k : Nat, k ≤ 12 ∧ c = .int .i64 (-1) ∧ i = .int .i64 k ∧ ∀ j, j < k → s j ≠ a) (fun _ i => 12 - (intOf i).toNat)
  case atStart => exact ⟨0, by omega, rfl, rfl, fun j hj => by omega⟩
  case round =>
    obtain ⟨k, hk, rfl, rfl, hno⟩ := hrel
    by_cases hlt : k < 12
    · have hck := hk2 k hlt
      obtain ⟨cb, tb, hbk⟩ := hs2.block k hlt
      by_cases he : s k = a
      · go_wp2_with (go_at_call 39; refine (is_same a _).mono ?_; rintro e w' ⟨rfl, rfl⟩)
        go_ret2
        exact ⟨⟨_, rfl, Or.inl ⟨k, hlt, he, rfl⟩⟩, hb2⟩
      · go_wp2_with (go_at_call 39; refine (is_other a (s k) ca cb ta tb _ (fun h => he h.symm) ha2 hbk).mono ?_; rintro e w' ⟨rfl, rfl⟩)
        go_round
        case rel => exact ⟨k + 1, by omega, rfl, by go_num, fun j hj => by
          rcases Nat.lt_succ_iff_lt_or_eq.1 hj with h | rfl
          · exact hno j h
          · exact he⟩
        case measure => simp [intOf]; omega
    · go_wp2
      go_ret2
      exact ⟨⟨_, rfl, Or.inr ⟨fun i hi => hno i (by omega), rfl⟩⟩, hb2⟩

set_option maxHeartbeats 1000000 in
theorem code_fault (pb po : Nat) (n : Int) (a : Addr) (w : World) (s : Nat → Addr) (hs : Sent w s) (hh : Handle w) (hn : w.cell? ⟨pb, po, none⟩ = some (.int .i64 n)) (he : w.cell? ⟨pb, po + 1, none⟩ = some (err a)) (ca : Array Value) (ta : TypeId) (ha : w.heap[a.block]? = some (.cells ca ta (0, 0))) :
    Calls Tryz.prog 21 #[.iface 64 (.pointer (some ⟨pb, po, none⟩))] w fun e w' => (∃ c : Int, e = .returned (.tuple #[.int .i64 c, .int .i64 n]) ∧ ((∃ i, i < 12 ∧ s i = a ∧ c = i + 1) ∨ ((∀ i, i < 12 → s i ≠ a) ∧ c = -1))) ∧ Below w.heap.size w w' := by
  have hsz := cell_lt hh
  have hlt := cell_lt hn
  have hA : Calls Tryz.prog 38 #[.iface 64 (.pointer (some ⟨pb, po, none⟩)), .iface 66 (.pointer (some ⟨w.heap.size, 0, none⟩))] (w.alloc (.cells #[.pointer none] 64)) fun ev w' => ev = .returned (.bool true) ∧ Below w.heap.size w w' ∧ w'.cell? ⟨w.heap.size, 0, none⟩ = some (.pointer (some ⟨pb, po, none⟩)) := by
    refine (as_hit ⟨pb, po, none⟩ ⟨w.heap.size, 0, none⟩ (.pointer none) _ (hh.below (Below.refl _ _ |>.alloc (Nat.le_refl _) _)) (by simp) (by simp)).mono ?_
    rintro e w' ⟨rfl, rfl⟩
    refine ⟨rfl, (((((((Below.refl _ _).alloc (Nat.le_refl _) _).alloc (by simp) _).alloc (by simp; omega) _).alloc (by simp; omega) _).alloc (by simp; omega) _).setCell (by simp) _), ?_⟩
    exact World.cell?_setCell_same _ _ _ (u := .pointer none) (by rw [World.cell?_alloc_lt _ _ ⟨w.heap.size, 0, none⟩ (by simp; omega), World.cell?_alloc_lt _ _ ⟨w.heap.size, 0, none⟩ (by simp; omega), World.cell?_alloc_lt _ _ ⟨w.heap.size, 0, none⟩ (by simp; omega), World.cell?_alloc_lt _ _ ⟨w.heap.size, 0, none⟩ (by simp)]; simp)
  go_enter Tryz.func21, Tryz.ntmps21
  go_wp2_with (go_at_call 38; refine hA.mono ?_; rintro e w1 ⟨rfl, hb0, hf⟩; have hn1 := (hb0.cell (p := ⟨pb, po, none⟩) hlt).trans hn; obtain ⟨c0, c1, c2, c3, c4, c5, c6, c7, c8, c9, c10, c11⟩ := (hs.below hb0).cells)
  have hs2 : Sent (w1.alloc (.cells #[err (s 0), err (s 1), err (s 2), err (s 3), err (s 4), err (s 5), err (s 6), err (s 7), err (s 8), err (s 9), err (s 10), err (s 11)] 33)) s := (hs.below hb0).below ((Below.refl _ _).alloc (Nat.le_refl _) _)
  have hb2 : Below w.heap.size w (w1.alloc (.cells #[err (s 0), err (s 1), err (s 2), err (s 3), err (s 4), err (s 5), err (s 6), err (s 7), err (s 8), err (s 9), err (s 10), err (s 11)] 33)) := hb0.alloc hb0.size _
  have hk2 : ∀ k, k < 12 → (w1.alloc (.cells #[err (s 0), err (s 1), err (s 2), err (s 3), err (s 4), err (s 5), err (s 6), err (s 7), err (s 8), err (s 9), err (s 10), err (s 11)] 33)).cell? ⟨w1.heap.size, k, none⟩ = some (err (s k)) := fun k hk => by
    rcases k with _ | _ | _ | _ | _ | _ | _ | _ | _ | _ | _ | _ | k <;> first | omega | simp
  have ha2 : (w1.alloc (.cells #[err (s 0), err (s 1), err (s 2), err (s 3), err (s 4), err (s 5), err (s 6), err (s 7), err (s 8), err (s 9), err (s 10), err (s 11)] 33)).heap[a.block]? = some (.cells ca ta (0, 0)) := by rw [hb2.block _ (block_lt ha)]; exact ha
  have he2 : (w1.alloc (.cells #[err (s 0), err (s 1), err (s 2), err (s 3), err (s 4), err (s 5), err (s 6), err (s 7), err (s 8), err (s 9), err (s 10), err (s 11)] 33)).cell? ⟨pb, po + 1, none⟩ = some (err a) := (hb2.cell (p := ⟨pb, po + 1, none⟩) hlt).trans he
  clear c0 c1 c2 c3 c4 c5 c6 c7 c8 c9 c10 c11 hA he hn hn1 hf hb0
  generalize (w1.alloc (.cells #[err (s 0), err (s 1), err (s 2), err (s 3), err (s 4), err (s 5), err (s 6), err (s 7), err (s 8), err (s 9), err (s 10), err (s 11)] 33)) = W2 at hs2 hb2 hk2 ha2 he2 ⊢
  go_loop [3, 30] (fun c i => ∃ k : Nat, k ≤ 12 ∧ c = .int .i64 n ∧ i = .int .i64 k ∧ ∀ j, j < k → s j ≠ a) (fun _ i => 12 - (intOf i).toNat)
  case atStart => exact ⟨0, by omega, rfl, rfl, fun j hj => by omega⟩
  case round =>
    obtain ⟨k, hk, rfl, rfl, hno⟩ := hrel
    by_cases hlt : k < 12
    · have hck := hk2 k hlt
      obtain ⟨cb, tb, hbk⟩ := hs2.block k hlt
      by_cases heq : s k = a
      · go_wp2_with (go_at_call 39; refine (is_wrap_same pb po a _ he2).mono ?_; rintro e w' ⟨rfl, rfl⟩)
        go_ret2
        exact ⟨⟨_, rfl, Or.inl ⟨k, hlt, heq, rfl⟩⟩, hb2⟩
      · go_wp2_with (go_at_call 39; refine (is_wrap_other pb po (s k) a ca cb ta tb _ he2 (fun h => heq h.symm) ha2 hbk).mono ?_; rintro e w' ⟨rfl, rfl⟩)
        go_round
        case rel => exact ⟨k + 1, by omega, rfl, by go_num, fun j hj => by
          rcases Nat.lt_succ_iff_lt_or_eq.1 hj with h | rfl
          · exact hno j h
          · exact heq⟩
        case measure => simp [intOf]; omega
    · go_wp2
      go_ret2
      exact ⟨⟨_, rfl, Or.inr ⟨fun i hi => hno i (by omega), rfl⟩⟩, hb2⟩

/-- At a sentinel. -/
theorem code_sent (i : Nat) (hi : i < 12) (w : World) (s : Nat → Addr) (hs : Sent w s) (hh : Handle w) :
    Calls Tryz.prog 21 #[err (s i)] w fun e w' => e = .returned (.tuple #[.int .i64 (i + 1 : Nat), .int .i64 (-1)]) ∧ Below w.heap.size w w' := by
  obtain ⟨ca, ta, ha⟩ := hs.block i hi
  refine (code_err (s i) w s hs hh ca ta ha).mono ?_
  rintro e w' ⟨⟨c, rfl, ⟨j, hj, hij, rfl⟩ | ⟨hno, rfl⟩⟩, hb⟩
  · obtain rfl := hs.inj j i hj hi hij
    exact ⟨by simp, hb⟩
  · exact absurd rfl (hno i hi)
/-- At another error of errors.New. -/
theorem code_new (a : Addr) (w : World) (s : Nat → Addr) (hs : Sent w s) (hh : Handle w) (ca : Array Value) (ta : TypeId) (ha : w.heap[a.block]? = some (.cells ca ta (0, 0))) (hno : ∀ i, i < 12 → s i ≠ a) :
    Calls Tryz.prog 21 #[err a] w fun e w' => e = .returned (.tuple #[.int .i64 (-1), .int .i64 (-1)]) ∧ Below w.heap.size w w' := by
  refine (code_err a w s hs hh ca ta ha).mono ?_
  rintro e w' ⟨⟨c, rfl, ⟨j, hj, hij, rfl⟩ | ⟨_, rfl⟩⟩, hb⟩
  · exact absurd hij (hno j hj)
  · exact ⟨rfl, hb⟩
/-- At a fault that wraps a sentinel. -/
theorem code_fault_sent (pb po : Nat) (n : Int) (i : Nat) (hi : i < 12) (w : World) (s : Nat → Addr) (hs : Sent w s) (hh : Handle w) (hn : w.cell? ⟨pb, po, none⟩ = some (.int .i64 n)) (he : w.cell? ⟨pb, po + 1, none⟩ = some (err (s i))) :
    Calls Tryz.prog 21 #[.iface 64 (.pointer (some ⟨pb, po, none⟩))] w fun e w' => e = .returned (.tuple #[.int .i64 (i + 1 : Nat), .int .i64 n]) ∧ Below w.heap.size w w' := by
  obtain ⟨ca, ta, ha⟩ := hs.block i hi
  refine (code_fault pb po n (s i) w s hs hh hn he ca ta ha).mono ?_
  rintro e w' ⟨⟨c, rfl, ⟨j, hj, hij, rfl⟩ | ⟨hno, rfl⟩⟩, hb⟩
  · obtain rfl := hs.inj j i hj hi hij
    exact ⟨by simp, hb⟩
  · exact absurd rfl (hno i hi)

theorem coded_nil (n : Int) (w : World) : Calls Tryz.prog 8 #[.nilIface, .int .i64 n] w fun e w' => e = .returned (.bool (decide (0 = n))) ∧ w' = w := by
  go_enter Tryz.func8, Tryz.ntmps8
  by_cases h : (0 : Int) = n
  · subst h
    go_wp2_with (go_at_call 21; refine (code_nil _).mono ?_; rintro e w1 ⟨rfl, rfl⟩)
    go_ret
    exact ⟨rfl, rfl⟩
  · have hb : ((0 : Int) == n) = false := by simpa using h
    go_wp2_with (go_at_call 21; refine (code_nil _).mono ?_; rintro e w1 ⟨rfl, rfl⟩)
    go_ret
    exact ⟨by simp [h], rfl⟩
/-- coded at an error of errors.New whose number is c. -/
theorem coded_of (v : Value) (c n : Int) (w : World) (B : Nat) (hv : Calls Tryz.prog 21 #[v] w fun e w' => e = .returned (.tuple #[.int .i64 c, .int .i64 (-1)]) ∧ Below B w w') :
    Calls Tryz.prog 8 #[v, .int .i64 n] w fun e w' => e = .returned (.bool (decide (c = n))) ∧ Below B w w' := by
  go_enter Tryz.func8, Tryz.ntmps8
  have H : Hid (Calls Tryz.prog 21 #[v] w fun e w' => e = .returned (.tuple #[.int .i64 c, .int .i64 (-1)]) ∧ Below B w w') := hv
  clear hv
  by_cases h : c = n
  · subst h
    go_wp2_with (go_at_call 21; refine H.out.mono ?_; rintro e w1 ⟨rfl, hb⟩)
    go_ret
    exact ⟨by simp, hb⟩
  · have hb : (c == n) = false := by simpa using h
    go_wp2_with (go_at_call 21; refine H.out.mono ?_; rintro e w1 ⟨rfl, hb⟩)
    go_ret
    exact ⟨by simp [h], ‹Below B w w1›⟩

/-- coded at a sentinel, with its own number. -/
theorem coded_sent (i : Nat) (hi : i < 12) (n : Int) (hn : n = i + 1) (w : World) (s : Nat → Addr) (hs : Sent w s) (hh : Handle w) :
    Calls Tryz.prog 8 #[err (s i), .int .i64 n] w fun e w' => e = .returned (.bool true) ∧ Below w.heap.size w w' := by
  refine (coded_of _ _ n w _ (code_sent i hi w s hs hh)).mono ?_
  rintro e w' ⟨rfl, hb⟩
  exact ⟨by simp [hn], hb⟩

end Go.Proofs.YtgdhfipbbijngaaGreatDoor
namespace Go.Proofs.YtgdhfipbbijngaaGreatDoor
open Go.RowKit Go.Lib Go.Sort

/-- The two sentinels of a place's check. -/
structure Two (w : World) (s : Nat → Addr) : Prop where
  bound : w.cell? ⟨2, 0, none⟩ = some (err (s 1))
  name : w.cell? ⟨4, 0, none⟩ = some (err (s 4))
theorem Two.below {w w' : World} {s : Nat → Addr} (h : Two w s) (hb : Below w.heap.size w w') : Two w' s where
  bound := by rw [hb.cell (p := ⟨2, 0, none⟩) (cell_lt h.bound)]; exact h.bound
  name := by rw [hb.cell (p := ⟨4, 0, none⟩) (cell_lt h.name)]; exact h.name
theorem Sent.two {w : World} {s : Nat → Addr} (h : Sent w s) : Two w s := ⟨h.cell 1 (by decide), h.cell 4 (by decide)⟩

/-- The error of a number. -/
def errP (s : Nat → Addr) (code : Nat) : Value := if code = 0 then .nilIface else err (s (code - 1))

theorem errP_zero (s : Nat → Addr) : errP s 0 = .nilIface := rfl
theorem errP_pos (s : Nat → Addr) {k : Nat} (h : k ≠ 0) : errP s k = err (s (k - 1)) := by unfold errP; rw [if_neg h]
theorem name_short {a : ByteArray} (h : isName a.data.toList = true) : a.size ≤ 8 := by
  unfold isName at h; simp at h
  rw [← size_len]; simpa using h.2.2
theorem dec_size (u : Nat) (h : u < 10 ^ 13) : (⟨(decDigits u).toArray⟩ : ByteArray).size ≤ 13 := by
  have := dec_short u h
  rw [← size_len]; simpa using this
/-- ErrText, ErrBound, ErrName. -/
structure Three (w : World) (s : Nat → Addr) : Prop where
  two : Two w s
  text : w.cell? ⟨1, 0, none⟩ = some (err (s 0))
theorem Three.below {w w' : World} {s : Nat → Addr} (h : Three w s) (hb : Below w.heap.size w w') : Three w' s where
  two := h.two.below hb
  text := by rw [hb.cell (p := ⟨1, 0, none⟩) (cell_lt h.text)]; exact h.text
theorem Sent.three {w : World} {s : Nat → Addr} (h : Sent w s) : Three w s := ⟨h.two, h.cell 0 (by decide)⟩
def cutA (c : UInt8) (l : List UInt8) : List UInt8 := if has c l then pre c l else l
def cutB (c : UInt8) (l : List UInt8) : List UInt8 := if has c l then post c l else []
theorem cutA_le (c : UInt8) (l : List UInt8) : (cutA c l).length ≤ l.length := by
  unfold cutA; split
  · exact pre_length_le c l
  · exact Nat.le_refl _
theorem cutB_le (c : UInt8) (l : List UInt8) : (cutB c l).length ≤ l.length := by
  unfold cutB; split
  · rw [← drop_pre, List.length_drop]; omega
  · simp
theorem mk_size (l : List UInt8) : (⟨l.toArray⟩ : ByteArray).size = l.length := by rw [← size_len, bytes_toList]
theorem bcell {W w1 : World} (hb : Below W.heap.size W w1) : (∀ b o, b < W.heap.size → w1.cell? ⟨b, o, none⟩ = W.cell? ⟨b, o, none⟩) ∧ (∀ b o, b < W.heap.size → w1.frozen? ⟨b, o, none⟩ = W.frozen? ⟨b, o, none⟩) :=
  ⟨fun b o h => hb.cell (p := ⟨b, o, none⟩) h, fun b o h => hb.frozen (p := ⟨b, o, none⟩) h⟩
theorem split_pos (c : UInt8) (l : List UInt8) : splitL c l ≠ [] := by unfold splitL; simp
theorem isNum_ne {n : Nat} {l : List UInt8} (h : isNum n l = true) : l ≠ [] := by
  rintro rfl; rw [isNum_nil] at h; cases h
theorem cutB_no {c : UInt8} {l : List UInt8} (h : has c l = false) : cutB c l = [] := by unfold cutB; rw [h]; rfl
theorem cutB_yes {c : UInt8} {l : List UInt8} (h : has c l = true) : cutB c l = post c l := by unfold cutB; rw [if_pos h]
theorem cutA_yes {c : UInt8} {l : List UInt8} (h : has c l = true) : cutA c l = pre c l := by unfold cutA; rw [if_pos h]
theorem split_le (c : UInt8) (l : List UInt8) : ∀ p ∈ splitL c l, p.length ≤ l.length := by
  have key : ∀ n (l : List UInt8), l.length ≤ n → ∀ p ∈ splitL c l, p.length ≤ l.length := by
    intro n
    induction n with
    | zero =>
      intro l hl p hp
      have : l = [] := List.eq_nil_of_length_eq_zero (by omega)
      subst this
      rw [split_none (by rfl)] at hp
      simp at hp; subst hp; simp
    | succ n ih =>
      intro l hl p hp
      cases h : has c l with
      | false => rw [split_none h] at hp; simp at hp; subst hp; exact Nat.le_refl _
      | true =>
        rw [split_some h] at hp
        rcases List.mem_cons.1 hp with rfl | hp
        · exact pre_length_le c l
        · have hlt := pre_length_lt c l h
          have hpl : (post c l).length ≤ l.length - 1 := by rw [← drop_pre, List.length_drop]; omega
          have := ih (post c l) (by omega) p hp
          omega
  exact key _ l (Nat.le_refl _)
theorem codedP_any (s : Nat → Addr) (code : Nat) (hc : code ≤ 12) (n : Int) (w : World) (hs : Sent w s) (hh : Handle w) :
    Calls Tryz.prog 8 #[errP s code, .int .i64 n] w fun e w' => e = .returned (.bool (decide ((code : Int) = n))) ∧ Below w.heap.size w w' := by
  rcases code with _ | k
  · rw [errP_zero]
    refine (coded_nil n w).mono ?_
    rintro e w' ⟨rfl, rfl⟩
    exact ⟨rfl, Below.refl _ _⟩
  · rw [errP_pos s (by omega)]
    refine (coded_of _ _ n w _ (code_sent k (by omega) w s hs hh)).mono ?_
    rintro e w' ⟨rfl, hb⟩
    exact ⟨rfl, hb⟩
end Go.Proofs.YtgdhfipbbijngaaGreatDoor
