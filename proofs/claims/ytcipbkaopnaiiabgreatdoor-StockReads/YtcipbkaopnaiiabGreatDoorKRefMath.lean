/-
  Plain mathematics of the reference's stock: a line set anew by one walk over the lines, where a line stands, how long a text is; no program is named here.
-/
import Derived.Test.YtcipbkaopnaiiabGreatDoorKText
namespace Go.Proofs.YtcipbkaopnaiiabGreatDoor
open Go.Lib Go.Sort

theorem aheadN_parts (x y : Ln) : aheadN x y = if x.1 = y.1 then zLt x.2.1 y.2.1 else aheadP x.1 y.1 := by
  obtain ⟨p, a, n⟩ := x
  obtain ⟨q, b, k⟩ := y
  unfold aheadN cmpN keyL cmpK or2 aheadP
  simp only
  by_cases h : p = q
  · subst h
    rw [if_pos (cmpP_self p), if_pos rfl]
    rcases cmpZ_cases a b with ⟨h1, h2, h3, h4⟩ | ⟨h1, h2, h3, h4⟩ | ⟨h1, h2, h3, h4⟩ <;> simp [h4, h1]
  · rw [if_neg (fun e => h (cmpP_zero e)), if_neg h]
/-- One line of the walk. -/
def wstep (x : Ln) (s : List Ln × Bool) (l : Ln) : List Ln × Bool :=
  if keyL l = keyL x then s else if s.2 = true then (s.1 ++ [l], true) else if aheadN x l = true then (s.1 ++ [x] ++ [l], true) else (s.1 ++ [l], false)
def wrun (x : Ln) (z : Bool) (m : List Ln) : List Ln × Bool := m.foldl (wstep x) ([], z)
def wend (x : Ln) (s : List Ln × Bool) : List Ln := if s.2 = true then s.1 else s.1 ++ [x]
theorem wrun_nil (x : Ln) (z : Bool) : wrun x z [] = ([], z) := rfl
theorem wrun_snoc (x : Ln) (z : Bool) (m : List Ln) (l : Ln) : wrun x z (m ++ [l]) = wstep x (wrun x z m) l := by unfold wrun; rw [List.foldl_append]; rfl
theorem wstep_same {x : Ln} {s : List Ln × Bool} {l : Ln} (h : keyL l = keyL x) : wstep x s l = s := by unfold wstep; rw [if_pos h]
theorem wstep_done {x : Ln} {s : List Ln × Bool} {l : Ln} (h : keyL l ≠ keyL x) (h1 : s.2 = true) : wstep x s l = (s.1 ++ [l], true) := by unfold wstep; rw [if_neg h, if_pos h1]
theorem wstep_here {x : Ln} {s : List Ln × Bool} {l : Ln} (h : keyL l ≠ keyL x) (h1 : s.2 = false) (h2 : aheadN x l = true) : wstep x s l = (s.1 ++ [x] ++ [l], true) := by unfold wstep; rw [if_neg h, if_neg (by rw [h1]; decide), if_pos h2]
theorem wstep_later {x : Ln} {s : List Ln × Bool} {l : Ln} (h : keyL l ≠ keyL x) (h1 : s.2 = false) (h2 : aheadN x l = false) : wstep x s l = (s.1 ++ [l], false) := by unfold wstep; rw [if_neg h, if_neg (by rw [h1]; decide), if_neg (by rw [h2]; decide)]
theorem wfold_done (x : Ln) : ∀ (m out : List Ln), m.foldl (wstep x) (out, true) = (out ++ without m (keyL x), true)
  | [], out => by simp [without]
  | l :: m, out => by
    rw [List.foldl_cons]
    unfold without
    by_cases h : keyL l = keyL x
    · rw [wstep_same h, wfold_done x m out, List.filter_cons_of_neg (by simp [h])]; rfl
    · rw [wstep_done h rfl, wfold_done x m, List.filter_cons_of_pos (by simp [h])]
      simp [without]
theorem wfold_open (x : Ln) : ∀ (m out : List Ln), wend x (m.foldl (wstep x) (out, false)) = out ++ insN x (without m (keyL x))
  | [], out => by simp [without, wend, insN]
  | l :: m, out => by
    rw [List.foldl_cons]
    unfold without
    by_cases h : keyL l = keyL x
    · rw [wstep_same h, wfold_open x m out, List.filter_cons_of_neg (by simp [h])]; rfl
    · rw [List.filter_cons_of_pos (by simp [h])]
      unfold insN
      cases ha : aheadN x l with
      | true =>
        rw [wstep_here h rfl ha, wfold_done]
        unfold wend
        simp [without]
      | false =>
        rw [wstep_later h rfl ha, wfold_open x m]
        simp [without]
theorem wend_run (m : List Ln) (k : Sp) (n : Int) : wend (k.1, k.2, n) (wrun (k.1, k.2, n) (decide (n = 0)) m) = withL m k n := by
  unfold wrun withL
  by_cases h : n = 0
  · rw [decide_eq_true h, wfold_done, if_pos h]
    unfold wend; simp; rfl
  · rw [decide_eq_false h, wfold_open, if_neg h]
    simp; rfl
theorem wstep_len (x : Ln) (s : List Ln × Bool) (l : Ln) : (wstep x s l).1.length + (if s.2 = true then 1 else 0) ≤ s.1.length + 1 + (if (wstep x s l).2 = true then 1 else 0) := by
  unfold wstep
  by_cases h : keyL l = keyL x
  · rw [if_pos h]; omega
  · rw [if_neg h]
    by_cases h1 : s.2 = true
    · rw [if_pos h1, if_pos h1]; simp
    · rw [if_neg h1, if_neg h1]
      by_cases h2 : aheadN x l = true
      · rw [if_pos h2]; simp
      · rw [if_neg h2]; simp
theorem wrun_len (x : Ln) (z : Bool) (m : List Ln) : (wrun x z m).1.length + (if z = true then 1 else 0) ≤ m.length + (if (wrun x z m).2 = true then 1 else 0) := by
  have key : ∀ (m : List Ln) (s : List Ln × Bool), (m.foldl (wstep x) s).1.length + (if s.2 = true then 1 else 0) ≤ s.1.length + m.length + (if (m.foldl (wstep x) s).2 = true then 1 else 0) := by
    intro m
    induction m with
    | nil => intro s; rw [List.foldl_nil, List.length_nil]; omega
    | cons l m ih =>
      intro s
      rw [List.foldl_cons]
      have h1 := ih (wstep x s l)
      have h2 := wstep_len x s l
      simp only [List.length_cons]
      omega
  have := key m ([], z)
  unfold wrun
  simp only [List.length_nil] at this
  omega
theorem wrun_short (x : Ln) (z : Bool) (m : List Ln) : (wrun x z m).1.length ≤ m.length + 1 := by
  have := wrun_len x z m
  split at this <;> split at this <;> omega
/-- Where a line stands. -/
theorem find_at {m : List Ln} (hs : Sorted m) {i : Nat} {l : Ln} (h : m[i]? = some l) : atL m (keyL l) = l.2.2 := atL_mem hs.keys (List.mem_of_getElem? h)
theorem atL_pos_of {m : List Ln} (h : Wf m) {i : Nat} {l : Ln} (hi : m[i]? = some l) : 1 ≤ atL m (keyL l) := by
  rw [find_at h.sorted hi]; exact h.pos l (List.mem_of_getElem? hi)
theorem ofL_take_succ {m : List Ln} {i : Nat} {l : Ln} (h : m[i]? = some l) (c : ByteArray) : ofL (m.take (i + 1)) c = ofL (m.take i) c + (if l.2.1 = c then l.2.2 else 0) := by
  obtain ⟨hi, e⟩ := List.getElem?_eq_some_iff.1 h
  rw [List.take_succ_eq_append_getElem hi, ofL_append, ofL_cons, ofL_nil, e]; omega
theorem ofL_take_bound {m : List Ln} (h : Wf m) (i : Nat) (c : ByteArray) : 0 ≤ ofL (m.take i) c ∧ ofL (m.take i) c ≤ 1099511627776 := by
  have h1 := ofL_nonneg (m := m.take i) (fun l hl => h.pos l (List.mem_of_mem_take hl)) c
  have h2 := ofL_nonneg (m := m.drop i) (fun l hl => h.pos l (List.mem_of_mem_drop hl)) c
  have h3 := ofL_append (m.take i) (m.drop i) c
  rw [List.take_append_drop] at h3
  have := h.most c
  omega
/-! ### how long a text is -/
theorem dec_len13 {u : Nat} (h : u < 10 ^ 13) : (decDigits u).length ≤ 13 := by simpa using dec_short u h
theorem pbytes_len {x : Pl} (h : okP x = true) : (pbytes x).length ≤ 36 := by
  obtain ⟨hn, a1, a2, a3, a4⟩ := okP_bounds h
  have h1 := dec_len13 (u := x.2.1.toNat) (by omega)
  have h2 := dec_len13 (u := x.2.2.toNat) (by omega)
  have h3 := name_short hn
  rw [← size_len] at h3
  rw [pbytes_ok h]
  simp only [List.length_append, List.length_cons]
  omega
theorem lineB_len {l : Ln} (h : okN l) : (lineB l).length ≤ 59 := by
  obtain ⟨h1, h2, h3, h4⟩ := h
  have p := pbytes_len h1
  have q := name_short h2
  rw [← size_len] at q
  have r := dec_len13 (u := l.2.2.toNat) (by omega)
  unfold lineB
  simp only [List.length_append, List.length_cons]
  omega
theorem textB_len : ∀ {m : List Ln}, (∀ l ∈ m, okN l) → (textB m).length ≤ 60 * m.length
  | [], _ => by simp [textB]
  | l :: m, h => by
    have h1 := lineB_len (h l (by simp))
    have h2 := textB_len (m := m) fun x hx => h x (by simp [hx])
    have : textB (l :: m) = (lineB l ++ [10]) ++ textB m := by unfold textB; simp
    rw [this]
    simp only [List.length_append, List.length_cons, List.length_nil]
    omega
theorem Wf.okN {m : List Ln} (h : Wf m) : ∀ l ∈ m, okN l := fun l hl => ⟨(h.ok l hl).1, (h.ok l hl).2.1, (h.ok l hl).2.2, h.qty hl⟩
theorem Wf.text_len {m : List Ln} (h : Wf m) : (textB m).length ≤ 12000 := by
  have h1 := textB_len h.okN
  have h2 := h.len
  omega
theorem textB_take_succ {m : List Ln} {i : Nat} {l : Ln} (h : m[i]? = some l) : textB (m.take (i + 1)) = textB (m.take i) ++ (lineB l ++ [10]) := by
  obtain ⟨hi, e⟩ := List.getElem?_eq_some_iff.1 h
  rw [List.take_succ_eq_append_getElem hi, textB_append, textB_one, e]
theorem textB_take_len {m : List Ln} (h : Wf m) (i : Nat) : (textB (m.take i)).length ≤ 12000 := by
  have h1 := textB_len (m := m.take i) fun l hl => h.okN l (List.mem_of_mem_take hl)
  have h2 := h.len
  have h3 := List.length_take_le i m
  have h4 : (m.take i).length ≤ m.length := by simp; omega
  omega
end Go.Proofs.YtcipbkaopnaiiabGreatDoor
