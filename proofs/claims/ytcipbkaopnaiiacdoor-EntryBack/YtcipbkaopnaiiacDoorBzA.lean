/-
  Plain mathematics of a text that is cut by a byte, and what the reference's Cut answers: the pieces in memory of its own; condition: the text has at most 100,000 bytes. What the reference's Cut answers: a slice of the pieces, in memory of the call's own; condition: the text has at most 100,000 bytes. What errors.As answers at an api.Fault and at an error of errors.New, over whatever world; conditions: the pointers' own cells, and the variable errors.errorType as the program lays it. What errors.Is answers at the sentinels of package api and at an api.Fault that wraps one of them, over whatever world; conditions: the pointers' own cells. What plain.Code tells of nil, of a sentinel of package api, of another error of errors.New, of an api.Fault; conditions: the sentinels' variables and errors.errorType as the program lays them. The sentinels of a check (ErrText, ErrBound, ErrName), the error of a number, small facts of texts that are cut: what the walks of places and of lots share.
-/
import Derived.Test.YtcipbkaopnaiiacDoorItoa
import Derived.OwnWalk
import Derived.Deep.AppendLies
import Derived.WalkKit
import Derived.Test.YtcipbkaopnaiiacDoorProg
import Derived.LaidEql
import Derived.Stop.Asserts
import Derived.RowKitTokens
import Derived.Below
import Derived.Handy
import Derived.Test.YtcipbkaopnaiiacDoorCmp
import Derived.Lib.QuietBelow
import Derived.Laws.Concat
namespace Go.Proofs.YtcipbkaopnaiiacDoor
open Go.RowKit Go.Lib Go.Sort

def stp (c : UInt8) (st : List (List UInt8) × List UInt8) (b : UInt8) : List (List UInt8) × List UInt8 := if b = c then (st.1 ++ [st.2], []) else (st.1, st.2 ++ [b])
def sp (c : UInt8) (l : List UInt8) : List (List UInt8) × List UInt8 := l.foldl (stp c) ([], [])
/-- The pieces of a text. -/
def splitL (c : UInt8) (l : List UInt8) : List (List UInt8) := (sp c l).1 ++ [(sp c l).2]
theorem sp_snoc (c : UInt8) (l : List UInt8) (b : UInt8) : sp c (l ++ [b]) = stp c (sp c l) b := by simp [sp, List.foldl_append]
theorem fold_facts (c : UInt8) : ∀ (l : List UInt8) (d : List (List UInt8)) (cur : List UInt8),
    (l.foldl (stp c) (d, cur)).1.length + (l.foldl (stp c) (d, cur)).2.length ≤ d.length + cur.length + l.length ∧ (l.foldl (stp c) (d, cur)).2 = (cur ++ l).drop ((cur ++ l).length - (l.foldl (stp c) (d, cur)).2.length)
  | [], d, cur => by simp
  | b :: l, d, cur => by
    rw [List.foldl_cons]
    by_cases h : b = c
    · have e : stp c (d, cur) b = (d ++ [cur], []) := by unfold stp; rw [if_pos h]
      rw [e]
      obtain ⟨h1, h2⟩ := fold_facts c l (d ++ [cur]) []
      generalize l.foldl (stp c) (d ++ [cur], []) = r at *
      simp only [List.nil_append, List.length_append, List.length_singleton, List.length_nil] at h1 h2
      have h3 : r.2.length ≤ l.length := by
        rw [h2, List.length_drop]; omega
      refine ⟨by simp; omega, ?_⟩
      have e2 : cur ++ b :: l = (cur ++ [b]) ++ l := by simp
      rw [e2]
      have e3 : ((cur ++ [b]) ++ l).length - r.2.length = (cur ++ [b]).length + (l.length - r.2.length) := by simp; omega
      rw [e3, List.drop_length_add_append]
      exact h2
    · have e : stp c (d, cur) b = (d, cur ++ [b]) := by unfold stp; rw [if_neg h]
      rw [e]
      obtain ⟨h1, h2⟩ := fold_facts c l d (cur ++ [b])
      have e2 : (cur ++ [b]) ++ l = cur ++ b :: l := by simp
      rw [e2] at h2
      refine ⟨?_, h2⟩
      simp only [List.length_append, List.length_cons, List.length_nil] at h1 ⊢
      omega
theorem sp_facts (c : UInt8) (l : List UInt8) : (sp c l).1.length + (sp c l).2.length ≤ l.length ∧ (sp c l).2 = l.drop (l.length - (sp c l).2.length) := by
  have := fold_facts c l [] []
  simp only [List.nil_append, List.length_nil, Nat.zero_add] at this
  exact this
theorem sp_hit (c : UInt8) (l : List UInt8) : sp c (l ++ [c]) = ((sp c l).1 ++ [(sp c l).2], []) := by rw [sp_snoc]; unfold stp; rw [if_pos rfl]
theorem sp_miss {c b : UInt8} (l : List UInt8) (h : b ≠ c) : sp c (l ++ [b]) = ((sp c l).1, (sp c l).2 ++ [b]) := by rw [sp_snoc]; unfold stp; rw [if_neg h]
theorem fold_gen (c : UInt8) : ∀ (l : List UInt8) (d : List (List UInt8)) (cur : List UInt8), l.foldl (stp c) (d, cur) = (d ++ (l.foldl (stp c) ([], cur)).1, (l.foldl (stp c) ([], cur)).2)
  | [], d, cur => by simp
  | b :: l, d, cur => by
    rw [List.foldl_cons, List.foldl_cons]
    by_cases h : b = c
    · have e : ∀ d, stp c (d, cur) b = (d ++ [cur], []) := fun d => by unfold stp; rw [if_pos h]
      rw [e, e, fold_gen c l, fold_gen c l ([] ++ [cur])]; simp
    · have e : ∀ d, stp c (d, cur) b = (d, cur ++ [b]) := fun d => by unfold stp; rw [if_neg h]
      rw [e, e, fold_gen c l]
theorem fold_none (c : UInt8) : ∀ (l : List UInt8) (cur : List UInt8), has c l = false → l.foldl (stp c) ([], cur) = ([], cur ++ l)
  | [], cur, _ => by simp
  | b :: l, cur, h => by
    unfold has at h
    simp only [List.any_cons, Bool.or_eq_false_iff] at h
    have hb : b ≠ c := by simpa using h.1
    rw [List.foldl_cons]
    have e : stp c ([], cur) b = ([], cur ++ [b]) := by unfold stp; rw [if_neg hb]
    rw [e, fold_none c l _ h.2]; simp
theorem has_parts (c : UInt8) : ∀ (l : List UInt8), has c l = true → l = pre c l ++ c :: post c l ∧ has c (pre c l) = false
  | [], h => by simp [has] at h
  | b :: l, h => by
    by_cases hb : b = c
    · subst hb; simp [pre, post, has]
    · have h' : has c l = true := by unfold has at *; simpa [hb] using h
      obtain ⟨e1, e2⟩ := has_parts c l h'
      have e3 : pre c (b :: l) = b :: pre c l := by unfold pre; simp [hb]
      have e4 : post c (b :: l) = post c l := by unfold post; simp [hb]
      rw [e3, e4]
      refine ⟨by rw [List.cons_append, ← e1], ?_⟩
      unfold has at *
      simp [hb]
      simpa using e2
theorem split_none {c : UInt8} {l : List UInt8} (h : has c l = false) : splitL c l = [l] := by
  unfold splitL sp; rw [fold_none c l [] h]; simp
theorem split_some {c : UInt8} {l : List UInt8} (h : has c l = true) : splitL c l = pre c l :: splitL c (post c l) := by
  obtain ⟨e1, e2⟩ := has_parts c l h
  have e : sp c l = (pre c l :: (sp c (post c l)).1, (sp c (post c l)).2) := by
    unfold sp
    conv => lhs; rw [e1]
    rw [List.foldl_append, fold_none c _ [] e2, List.foldl_cons]
    have e5 : stp c ([], [] ++ pre c l) c = ([pre c l], []) := by unfold stp; simp
    rw [e5, fold_gen]; simp
  unfold splitL
  rw [e]; simp
theorem split_length (c : UInt8) (l : List UInt8) : (splitL c l).length ≤ l.length + 1 := by
  unfold splitL
  have := (sp_facts c l).1
  simp; omega
theorem extract_cur (s : ByteArray) (c : UInt8) (k : Nat) (hk : k ≤ s.size) : s.extract (k - (sp c (s.data.toList.take k)).2.length) k = ⟨(sp c (s.data.toList.take k)).2.toArray⟩ := by
  have h := (sp_facts c (s.data.toList.take k)).2
  have hl : (s.data.toList.take k).length = k := by rw [List.length_take, size_len]; omega
  rw [hl] at h
  rw [extract_eq]
  have e : (s.data.toList.drop (k - (sp c (s.data.toList.take k)).2.length)).take (k - (k - (sp c (s.data.toList.take k)).2.length)) = (sp c (s.data.toList.take k)).2 := by
    rw [← List.drop_take]
    exact h.symm
  rw [e]
/-- Pieces as strings. -/
def strs (ps : List (List UInt8)) : List Value := ps.map fun p => .string ⟨p.toArray⟩
theorem strs_snoc (ps : List (List UInt8)) (p : List UInt8) : strs ps ++ [.string ⟨p.toArray⟩] = strs (ps ++ [p]) := by unfold strs; simp
theorem strs_length (ps : List (List UInt8)) : (strs ps).length = ps.length := by unfold strs; simp
end Go.Proofs.YtcipbkaopnaiiacDoor
namespace Go.Proofs.YtcipbkaopnaiiacDoor
open Go.RowKit Go.Lib Go.Sort

theorem Tryd.infoStr : (Tryd.prog.info? 9).map (fun i => (i.zero, i.size, i.bytes)) = some (some (.string ⟨#[]⟩), 1, 16) := by kernel_rfl
theorem one_cell {W : World} (v : Value) (t n : Nat) (hn : n = W.heap.size) : ∀ j u, [v][j]? = some u → (W.alloc (.cells #[v] t)).cell? ((⟨n, 0, none⟩ : Addr).add j) = some u := by
  intro j u hj
  match j, hj with
  | 0, hj =>
    simp at hj
    subst hj
    subst hn
    simp [Addr.add]
theorem one_one (s : ByteArray) : ∀ u ∈ [Value.string s], u.oneCell' = true := by
  intro u hu; simp at hu; subst hu; rfl
/-- What a round's append leaves. -/
theorem cut_step {w wr w1 : World} {v : Value} {n : Nat} {xs : List Value} {o : Obj} {base : Nat} (hb : Below w.heap.size w wr) (hown : wr.ownsRow w.heap.size base 1 v n xs) (hg : (wr.alloc o).grownBy w1 v.ownBlock) : Below w.heap.size w w1 := by
  refine (hb.alloc hb.size o).grown hg (by have := hb.size; simp; omega) ?_
  intro k hk
  rcases hown.2 with ⟨rfl, _⟩ | ⟨g, cap, cur, rfl, hg', _⟩
  · simp [Value.ownBlock] at hk
  · simp [Value.ownBlock] at hk; omega

end Go.Proofs.YtcipbkaopnaiiacDoor
namespace Go.Proofs.YtcipbkaopnaiiacDoor
open Go.RowKit Go.Extern.Stop Go.Stop Go.Extern

theorem cell_lt {w : World} {t : Addr} {v : Value} (h : w.cell? t = some v) : t.block < w.heap.size := by
  rcases Nat.lt_or_ge t.block w.heap.size with h' | h'
  · exact h'
  · simp [World.cell?, Array.getElem?_eq_none h'] at h

theorem rlm (z : Sem Value) (f : TypeId → Addr → Nat → Nat → Sem Value) (v : Value) :
    ReflectliteValue.method z f #[v] = (do match ← ReflectliteValue.parts v with | none => z | some (t, a, fl) => f t a fl (fl % 32)) := rfl
theorem rls (v x : Value) : ReflectliteValue.set #[v, x] = (do
    let (some (dst, a, fl), some (src, b, _)) := (← ReflectliteValue.parts v, ← ReflectliteValue.parts x)
      | unsupported (.noEntry "extern/(internal/reflectlite.Value).Set.zeroValue")
    if fl / ReflectliteValue.flagAddr % 2 == 0 then unsupported (.noEntry "extern/(internal/reflectlite.Value).Set.unaddressable")
    let val ← loadVar src b
    if ← Rtype.directlyAssignable dst src then storeVar dst a val
    else if ← Rtype.implements dst src then
      if (← Rtype.kind src) == 20 then
        match val with
        | .nilIface => unsupported (.noEntry "extern/reflectlite: a nil value of one interface type handed on as a value of another")
        | _ => storeVar dst a val
      else storeVar dst a (.iface src val)
    else panicString ("reflectlite.Set: value of type " ++ (← Rtype.spelt src) ++ " is not assignable to type " ++ (← Rtype.spelt dst))
    pure (.tuple #[])) := rfl
/- the model's own entries, as the calls meet them -/
/- the assertions of errors.as and errors.is -/
theorem Tryd.eComp : (Tryd.prog.info? 102).map (·.comparable) = some true := by kernel_rfl
theorem Tryd.eSize : (Tryd.prog.info? 119).map (·.size) = some 1 ∨ (Tryd.prog.info? 119).map (·.size) = some 16 := by first | exact Or.inl (by kernel_rfl) | exact Or.inr (by kernel_rfl)

end Go.Proofs.YtcipbkaopnaiiacDoor
namespace Go.Proofs.YtcipbkaopnaiiacDoor
open Go.RowKit Go.Extern.Stop Go.Stop Go.Extern

end Go.Proofs.YtcipbkaopnaiiacDoor
namespace Go.Proofs.YtcipbkaopnaiiacDoor
open Go.RowKit Go.Extern.Stop Go.Stop Go.Extern

abbrev err (a : Addr) : Value := .iface 102 (.pointer (some a))
theorem block_lt {w : World} {b : Nat} {o : Obj} (h : w.heap[b]? = some o) : b < w.heap.size := by
  rcases Nat.lt_or_ge b w.heap.size with h' | h'
  · exact h'
  · simp [Array.getElem?_eq_none h'] at h
end Go.Proofs.YtcipbkaopnaiiacDoor
namespace Go.Proofs.YtcipbkaopnaiiacDoor
open Go.RowKit Go.Lib Go.Sort

/-- The two sentinels of a place's check. -/
structure Two (w : World) (s : Nat → Addr) : Prop where
  bound : w.cell? ⟨2, 0, none⟩ = some (err (s 1))
  name : w.cell? ⟨1, 0, none⟩ = some (err (s 4))
theorem Two.below {w w' : World} {s : Nat → Addr} (h : Two w s) (hb : Below w.heap.size w w') : Two w' s where
  bound := by rw [hb.cell (p := ⟨2, 0, none⟩) (cell_lt h.bound)]; exact h.bound
  name := by rw [hb.cell (p := ⟨1, 0, none⟩) (cell_lt h.name)]; exact h.name
/-- The error of a number. -/
def errP (s : Nat → Addr) (code : Nat) : Value := if code = 0 then .nilIface else err (s (code - 1))

theorem errP_zero (s : Nat → Addr) : errP s 0 = .nilIface := rfl
theorem errP_pos (s : Nat → Addr) {k : Nat} (h : k ≠ 0) : errP s k = err (s (k - 1)) := by unfold errP; rw [if_neg h]
theorem name_short {a : ByteArray} (h : isName a.data.toList = true) : a.size ≤ 8 := by
  unfold isName at h; simp at h
  rw [← size_len]; simpa using h.2.2
theorem dec_size (u : Nat) (h : u < 10 ^ 13) : (⟨(decDigits u).toArray⟩ : ByteArray).size ≤ 13 := by
  have := dec_short u h
  rw [← size_len]; simpa using this
/-- ErrText, ErrBound, ErrName. -/
structure Three (w : World) (s : Nat → Addr) : Prop where
  two : Two w s
  text : w.cell? ⟨4, 0, none⟩ = some (err (s 0))
theorem Three.below {w w' : World} {s : Nat → Addr} (h : Three w s) (hb : Below w.heap.size w w') : Three w' s where
  two := h.two.below hb
  text := by rw [hb.cell (p := ⟨4, 0, none⟩) (cell_lt h.text)]; exact h.text
def cutA (c : UInt8) (l : List UInt8) : List UInt8 := if has c l then pre c l else l
def cutB (c : UInt8) (l : List UInt8) : List UInt8 := if has c l then post c l else []
theorem cutA_le (c : UInt8) (l : List UInt8) : (cutA c l).length ≤ l.length := by
  unfold cutA; split
  · exact pre_length_le c l
  · exact Nat.le_refl _
theorem cutB_le (c : UInt8) (l : List UInt8) : (cutB c l).length ≤ l.length := by
  unfold cutB; split
  · rw [← drop_pre, List.length_drop]; omega
  · simp
theorem mk_size (l : List UInt8) : (⟨l.toArray⟩ : ByteArray).size = l.length := by rw [← size_len, bytes_toList]
theorem bcell {W w1 : World} (hb : Below W.heap.size W w1) : (∀ b o, b < W.heap.size → w1.cell? ⟨b, o, none⟩ = W.cell? ⟨b, o, none⟩) ∧ (∀ b o, b < W.heap.size → w1.frozen? ⟨b, o, none⟩ = W.frozen? ⟨b, o, none⟩) :=
  ⟨fun b o h => hb.cell (p := ⟨b, o, none⟩) h, fun b o h => hb.frozen (p := ⟨b, o, none⟩) h⟩
theorem split_pos (c : UInt8) (l : List UInt8) : splitL c l ≠ [] := by unfold splitL; simp
theorem isNum_ne {n : Nat} {l : List UInt8} (h : isNum n l = true) : l ≠ [] := by
  rintro rfl; rw [isNum_nil] at h; cases h
theorem cutB_no {c : UInt8} {l : List UInt8} (h : has c l = false) : cutB c l = [] := by unfold cutB; rw [h]; rfl
theorem cutB_yes {c : UInt8} {l : List UInt8} (h : has c l = true) : cutB c l = post c l := by unfold cutB; rw [if_pos h]
theorem cutA_yes {c : UInt8} {l : List UInt8} (h : has c l = true) : cutA c l = pre c l := by unfold cutA; rw [if_pos h]
theorem split_le (c : UInt8) (l : List UInt8) : ∀ p ∈ splitL c l, p.length ≤ l.length := by
  have key : ∀ n (l : List UInt8), l.length ≤ n → ∀ p ∈ splitL c l, p.length ≤ l.length := by
    intro n
    induction n with
    | zero =>
      intro l hl p hp
      have : l = [] := List.eq_nil_of_length_eq_zero (by omega)
      subst this
      rw [split_none (by rfl)] at hp
      simp at hp; subst hp; simp
    | succ n ih =>
      intro l hl p hp
      cases h : has c l with
      | false => rw [split_none h] at hp; simp at hp; subst hp; exact Nat.le_refl _
      | true =>
        rw [split_some h] at hp
        rcases List.mem_cons.1 hp with rfl | hp
        · exact pre_length_le c l
        · have hlt := pre_length_lt c l h
          have hpl : (post c l).length ≤ l.length - 1 := by rw [← drop_pre, List.length_drop]; omega
          have := ih (post c l) (by omega) p hp
          omega
  exact key _ l (Nat.le_refl _)
end Go.Proofs.YtcipbkaopnaiiacDoor
