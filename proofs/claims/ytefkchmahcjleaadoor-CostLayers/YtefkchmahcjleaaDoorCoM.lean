/-
  Plain mathematics of layers: pieces that come, and pieces that go, the eldest first; what went and what is left cost what came cost. No program stands here.
-/
import Derived.Test.YtefkchmahcjleaaDoorNums
namespace Go.Proofs.YtefkchmahcjleaaDoor
open Go.Lib

/-- A layer: how many, and what each cost. -/
abbrev Ly := Int × Int
def hasY (m : List Ly) : Int := (m.map fun x => x.1).sum
def worthY (m : List Ly) : Int := (m.map fun x => x.1 * x.2).sum
def PosY (m : List Ly) : Prop := ∀ x ∈ m, 1 ≤ x.1 ∧ 0 ≤ x.2 ∧ x.2 ≤ 1048576
structure LyOk (m : List Ly) : Prop where
  pos : PosY m
  most : hasY m ≤ 1099511627776
theorem hasY_cons (x : Ly) (m : List Ly) : hasY (x :: m) = x.1 + hasY m := by unfold hasY; simp
theorem worthY_cons (x : Ly) (m : List Ly) : worthY (x :: m) = x.1 * x.2 + worthY m := by unfold worthY; simp
theorem hasY_app (m m' : List Ly) : hasY (m ++ m') = hasY m + hasY m' := by unfold hasY; simp
theorem worthY_app (m m' : List Ly) : worthY (m ++ m') = worthY m + worthY m' := by unfold worthY; simp
theorem hasY_nil : hasY [] = 0 := rfl
theorem worthY_nil : worthY [] = 0 := rfl
theorem PosY.tail {x : Ly} {m : List Ly} (h : PosY (x :: m)) : PosY m := fun y hy => h y (List.mem_cons_of_mem _ hy)
theorem PosY.head {x : Ly} {m : List Ly} (h : PosY (x :: m)) : 1 ≤ x.1 ∧ 0 ≤ x.2 ∧ x.2 ≤ 1048576 := h x (List.mem_cons_self ..)
theorem hasY_len : ∀ {m : List Ly}, PosY m → (m.length : Int) ≤ hasY m
  | [], _ => by rw [hasY_nil]; simp
  | x :: m, h => by
    have := hasY_len h.tail
    have := h.head
    rw [hasY_cons, List.length_cons]
    omega
theorem hasY_nonneg {m : List Ly} (h : PosY m) : 0 ≤ hasY m := by have := hasY_len h; omega
theorem cost_bound {n c : Int} (h0 : 0 ≤ n) (c0 : 0 ≤ c) (c1 : c ≤ 1048576) : 0 ≤ n * c ∧ n * c ≤ n * 1048576 := ⟨Int.mul_nonneg h0 c0, Int.mul_le_mul_of_nonneg_left c1 h0⟩
theorem worthY_bound : ∀ {m : List Ly}, PosY m → 0 ≤ worthY m ∧ worthY m ≤ hasY m * 1048576
  | [], _ => by rw [worthY_nil, hasY_nil]; omega
  | x :: m, h => by
    obtain ⟨h1, h2⟩ := worthY_bound h.tail
    obtain ⟨p1, p2, p3⟩ := h.head
    obtain ⟨q1, q2⟩ := cost_bound (n := x.1) (by omega) p2 p3
    rw [worthY_cons, hasY_cons, Int.add_mul]
    omega
theorem worth_most {m : List Ly} (h : LyOk m) : 0 ≤ worthY m ∧ worthY m ≤ 1152921504606846976 := by
  obtain ⟨h1, h2⟩ := worthY_bound h.pos
  have := h.most
  omega
theorem hasY_take {m : List Ly} (h : PosY m) (k : Nat) : 0 ≤ hasY (m.take k) ∧ hasY (m.take k) ≤ hasY m := by
  have e : m = m.take k ++ m.drop k := (List.take_append_drop k m).symm
  have h1 : PosY (m.take k) := fun x hx => h x (List.mem_of_mem_take hx)
  have h2 : PosY (m.drop k) := fun x hx => h x (List.mem_of_mem_drop hx)
  have := hasY_nonneg h1
  have := hasY_nonneg h2
  refine ⟨by omega, ?_⟩
  conv => rhs; rw [e, hasY_app]
  omega
/-- Pieces come. -/
def inE (m : List Ly) (n c : Int) : Nat := if 1 ≤ n ∧ n ≤ 1099511627776 ∧ 0 ≤ c ∧ c ≤ 1048576 ∧ hasY m + n ≤ 1099511627776 then 0 else 2
/-- .. of as many to the last layer, or to a new one. -/
def addL (m : List Ly) (n c : Int) : List Ly := match m.getLast? with
  | some x => if x.2 = c then m.dropLast ++ [(x.1 + n, c)] else m ++ [(n, c)]
  | none => [(n, c)]
def inL (m : List Ly) (n c : Int) : List Ly := if inE m n c = 0 then addL m n c else m
theorem addL_nil (n c : Int) : addL [] n c = [(n, c)] := rfl
theorem addL_snoc (m : List Ly) (x : Ly) (n c : Int) : addL (m ++ [x]) n c = if x.2 = c then m ++ [(x.1 + n, c)] else m ++ [x] ++ [(n, c)] := by
  unfold addL
  rw [List.getLast?_append]
  simp
theorem addL_has (m : List Ly) (n c : Int) : hasY (addL m n c) = hasY m + n ∧ worthY (addL m n c) = worthY m + n * c ∧ (addL m n c).length ≤ m.length + 1 := by
  rcases List.eq_nil_or_concat m with rfl | ⟨m, x, rfl⟩
  · rw [addL_nil, hasY_cons, worthY_cons, hasY_nil, worthY_nil]
    simp
  · rw [List.concat_eq_append, addL_snoc]
    by_cases h : x.2 = c
    · rw [if_pos h]
      simp only [hasY_app, worthY_app, hasY_cons, worthY_cons, hasY_nil, worthY_nil, List.length_append, List.length_singleton]
      subst h
      rw [Int.add_mul]
      refine ⟨by omega, by omega, by omega⟩
    · rw [if_neg h]
      simp only [hasY_app, worthY_app, hasY_cons, worthY_cons, hasY_nil, worthY_nil, List.length_append, List.length_singleton]
      refine ⟨by omega, by omega, by omega⟩
theorem addL_pos {m : List Ly} (h : PosY m) {n c : Int} (hn : 1 ≤ n) (c0 : 0 ≤ c) (c1 : c ≤ 1048576) : PosY (addL m n c) := by
  rcases List.eq_nil_or_concat m with rfl | ⟨m, x, rfl⟩
  · rw [addL_nil]
    intro y hy
    rw [List.mem_singleton.1 hy]
    exact ⟨hn, c0, c1⟩
  · rw [List.concat_eq_append] at h ⊢
    have hx := h x (by simp)
    rw [addL_snoc]
    by_cases hc : x.2 = c
    · rw [if_pos hc]
      intro y hy
      rcases List.mem_append.1 hy with hy | hy
      · exact h y (by simp [hy])
      · rw [List.mem_singleton.1 hy]
        refine ⟨?_, c0, c1⟩
        show 1 ≤ x.1 + n
        omega
    · rw [if_neg hc]
      intro y hy
      rcases List.mem_append.1 hy with hy | hy
      · exact h y hy
      · rw [List.mem_singleton.1 hy]
        exact ⟨hn, c0, c1⟩
theorem inE_zero {m : List Ly} {n c : Int} (h : inE m n c = 0) : 1 ≤ n ∧ n ≤ 1099511627776 ∧ 0 ≤ c ∧ c ≤ 1048576 ∧ hasY m + n ≤ 1099511627776 := by
  unfold inE at h
  split at h
  · assumption
  · cases h
theorem inE_cases (m : List Ly) (n c : Int) : inE m n c = 0 ∨ inE m n c = 2 := by unfold inE; split <;> simp
theorem LyOk.nil : LyOk [] := ⟨fun x hx => (by cases hx), by rw [hasY_nil]; decide⟩
theorem LyOk.in_ {m : List Ly} (h : LyOk m) (n c : Int) : LyOk (inL m n c) := by
  unfold inL
  split
  · rename_i h0
    obtain ⟨h1, h2, h3, h4, h5⟩ := inE_zero h0
    exact ⟨addL_pos h.pos h1 h3 h4, by rw [(addL_has m n c).1]; exact h5⟩
  · exact h
theorem inL_len (m : List Ly) (n c : Int) : (inL m n c).length ≤ m.length + 1 := by
  unfold inL
  split
  · exact (addL_has m n c).2.2
  · omega
/-- Pieces go. -/
def outE (m : List Ly) (n : Int) : Nat := if 1 ≤ n ∧ n ≤ 1099511627776 then (if n ≤ hasY m then 0 else 9) else 2
/-- .. what the first n cost, what is behind them. -/
def outS : List Ly → Int → Int
  | [], _ => 0
  | x :: m, n => min n x.1 * x.2 + outS m (n - min n x.1)
def restY : List Ly → Int → List Ly
  | [], _ => []
  | x :: m, n => if x.1 ≤ n then restY m (n - x.1) else (x.1 - n, x.2) :: m
def outN (m : List Ly) (n : Int) : Int := if outE m n = 0 then outS m n else 0
def outL (m : List Ly) (n : Int) : List Ly := if outE m n = 0 then restY m n else m
theorem outE_zero {m : List Ly} {n : Int} (h : outE m n = 0) : 1 ≤ n ∧ n ≤ 1099511627776 ∧ n ≤ hasY m := by
  unfold outE at h
  split at h
  · split at h
    · omega
    · cases h
  · cases h
theorem outE_of {m : List Ly} {n : Int} (h1 : 1 ≤ n) (h2 : n ≤ 1099511627776) (h3 : n ≤ hasY m) : outE m n = 0 := by
  unfold outE
  rw [if_pos ⟨h1, h2⟩, if_pos h3]
theorem outE_le (m : List Ly) (n : Int) : outE m n ≤ 12 := by unfold outE; split <;> (try split) <;> decide
theorem outS_zero : ∀ {m : List Ly}, PosY m → outS m 0 = 0
  | [], _ => rfl
  | x :: m, h => by
    have := h.head
    show min 0 x.1 * x.2 + outS m (0 - min 0 x.1) = 0
    rw [show min (0 : Int) x.1 = 0 by omega, Int.zero_mul, show (0 : Int) - 0 = 0 by omega, outS_zero h.tail]; rfl
theorem restY_zero : ∀ {m : List Ly}, PosY m → restY m 0 = m
  | [], _ => rfl
  | x :: m, h => by
    have := h.head
    show (if x.1 ≤ 0 then _ else _) = _
    rw [if_neg (by omega), show x.1 - 0 = x.1 by omega]
theorem restY_pos : ∀ {m : List Ly} {n : Int}, PosY m → 0 ≤ n → PosY (restY m n)
  | [], _, h, _ => h
  | x :: m, n, h, hn => by
    show PosY (if x.1 ≤ n then _ else _)
    by_cases h1 : x.1 ≤ n
    · rw [if_pos h1]
      exact restY_pos h.tail (by omega)
    · rw [if_neg h1]
      intro y hy
      rcases List.mem_cons.1 hy with rfl | hy
      · exact ⟨by show 1 ≤ x.1 - n; omega, h.head.2⟩
      · exact h.tail y hy
theorem restY_has : ∀ {m : List Ly} {n : Int}, PosY m → 0 ≤ n → n ≤ hasY m → hasY (restY m n) = hasY m - n
  | [], n, _, h0, h => by rw [hasY_nil] at h; show (0 : Int) = 0 - n; omega
  | x :: m, n, h, h0, hn => by
    rw [hasY_cons] at hn ⊢
    show hasY (if x.1 ≤ n then _ else _) = _
    by_cases h1 : x.1 ≤ n
    · rw [if_pos h1, restY_has h.tail (by omega) (by omega)]; omega
    · rw [if_neg h1, hasY_cons]
      show x.1 - n + _ = _
      omega
theorem restY_len : ∀ (m : List Ly) (n : Int), (restY m n).length ≤ m.length
  | [], _ => Nat.le_refl _
  | x :: m, n => by
    show (if x.1 ≤ n then _ else _ : List Ly).length ≤ _
    have := restY_len m (n - x.1)
    split
    · rw [List.length_cons]; omega
    · simp
/-- What went and what is left cost what there was. -/
theorem out_worth : ∀ {m : List Ly} {n : Int}, PosY m → 0 ≤ n → outS m n + worthY (restY m n) = worthY m
  | [], _, _, _ => rfl
  | x :: m, n, h, h0 => by
    show min n x.1 * x.2 + outS m (n - min n x.1) + worthY (if x.1 ≤ n then _ else _) = _
    rw [worthY_cons]
    by_cases h1 : x.1 ≤ n
    · rw [if_pos h1, show min n x.1 = x.1 by omega]
      have := out_worth (n := n - x.1) h.tail (by omega)
      omega
    · rw [if_neg h1, show min n x.1 = n by omega, show n - n = 0 by omega, outS_zero h.tail, worthY_cons]
      show n * x.2 + 0 + ((x.1 - n) * x.2 + worthY m) = _
      rw [Int.sub_mul]
      omega
/-- Two that go one behind the other. -/
theorem out_two : ∀ {m : List Ly} {a b : Int}, PosY m → 0 ≤ a → 0 ≤ b → outS m a + outS (restY m a) b = outS m (a + b) ∧ restY (restY m a) b = restY m (a + b)
  | [], _, _, _, _, _ => ⟨rfl, rfl⟩
  | x :: m, a, b, h, ha, hb => by
    show min a x.1 * x.2 + outS m (a - min a x.1) + outS (if x.1 ≤ a then _ else _) b = min (a + b) x.1 * x.2 + outS m (a + b - min (a + b) x.1) ∧ restY (if x.1 ≤ a then _ else _) b = (if x.1 ≤ a + b then _ else _)
    by_cases h1 : x.1 ≤ a
    · rw [if_pos h1, if_pos (show x.1 ≤ a + b by omega), show min a x.1 = x.1 by omega, show min (a + b) x.1 = x.1 by omega]
      obtain ⟨i1, i2⟩ := out_two (a := a - x.1) (b := b) h.tail (by omega) hb
      rw [show a - x.1 + b = a + b - x.1 by omega] at i1 i2
      exact ⟨by omega, i2⟩
    · rw [if_neg h1, show min a x.1 = a by omega, show a - a = 0 by omega, outS_zero h.tail]
      show a * x.2 + 0 + (min b (x.1 - a) * x.2 + outS m (b - min b (x.1 - a))) = _ ∧ (if x.1 - a ≤ b then _ else _) = _
      have e1 : min (a + b) x.1 = a + min b (x.1 - a) := by omega
      rw [e1, Int.add_mul, show a + b - (a + min b (x.1 - a)) = b - min b (x.1 - a) by omega]
      refine ⟨by omega, ?_⟩
      by_cases h2 : x.1 ≤ a + b
      · rw [if_pos (show x.1 - a ≤ b by omega), if_pos h2, show b - (x.1 - a) = a + b - x.1 by omega]
      · rw [if_neg (show ¬ x.1 - a ≤ b by omega), if_neg h2]
        show (x.1 - a - b, x.2) :: m = (x.1 - (a + b), x.2) :: m
        rw [show x.1 - a - b = x.1 - (a + b) by omega]
theorem outS_bound {m : List Ly} {n : Int} (h : PosY m) (h0 : 0 ≤ n) : 0 ≤ outS m n ∧ outS m n ≤ worthY m := by
  have h1 := out_worth h h0
  have h2 := (worthY_bound (restY_pos h h0)).1
  refine ⟨?_, by omega⟩
  clear h1 h2
  induction m generalizing n with
  | nil => exact Int.le_refl _
  | cons x m ih =>
    have h3 := h.head
    have h4 := ih (n := n - min n x.1) h.tail (by omega)
    have h5 := (cost_bound (n := min n x.1) (by omega) h3.2.1 h3.2.2).1
    show 0 ≤ min n x.1 * x.2 + outS m (n - min n x.1)
    omega
theorem LyOk.out {m : List Ly} (h : LyOk m) (n : Int) : LyOk (outL m n) := by
  unfold outL
  split
  · rename_i h0
    obtain ⟨h1, h2, h3⟩ := outE_zero h0
    exact ⟨restY_pos h.pos (by omega), by rw [restY_has h.pos (by omega) h3]; have := h.most; omega⟩
  · exact h
theorem outL_len (m : List Ly) (n : Int) : (outL m n).length ≤ m.length := by
  unfold outL
  split
  · exact restY_len m n
  · omega
/-- The layers behind some of the eldest. -/
def lessL (x : Ly) (m : List Ly) (p : Int) : List Ly := if x.1 ≤ p then m else (x.1 - p, x.2) :: m
theorem out_step {x : Ly} {m : List Ly} {r p : Int} (hp : PosY (x :: m)) (e : min r x.1 = p) : outS (x :: m) r = p * x.2 + outS (lessL x m p) (r - p) ∧ restY (x :: m) r = restY (lessL x m p) (r - p) ∧ PosY (lessL x m p) ∧ hasY (lessL x m p) = hasY (x :: m) - p := by
  have h1 := hp.head
  subst e
  show min r x.1 * x.2 + outS m (r - min r x.1) = _ ∧ (if x.1 ≤ r then restY m (r - x.1) else (x.1 - r, x.2) :: m) = _ ∧ _
  unfold lessL
  by_cases hx : x.1 ≤ r
  · have e : min r x.1 = x.1 := by omega
    rw [e, if_pos (Int.le_refl _), if_pos hx, hasY_cons]
    exact ⟨rfl, rfl, hp.tail, by omega⟩
  · have e : min r x.1 = r := by omega
    rw [e, if_neg hx, if_neg hx, hasY_cons, hasY_cons, show r - r = 0 by omega, outS_zero hp.tail]
    have hp2 : PosY ((x.1 - r, x.2) :: m) := fun y hy => by
      rcases List.mem_cons.1 hy with rfl | hy
      · exact ⟨by show 1 ≤ x.1 - r; omega, h1.2⟩
      · exact hp.tail y hy
    rw [outS_zero hp2, restY_zero hp2]
    exact ⟨rfl, rfl, hp2, by show x.1 - r + _ = _; omega⟩
/-- A layer as text: how many, the sign, what each cost. -/
def wordY (x : Ly) : List UInt8 := decDigits x.1.toNat ++ 64 :: decDigits x.2.toNat
/-- Layers as text. -/
def textY : List Ly → List UInt8
  | [] => []
  | [x] => wordY x
  | x :: y :: m => wordY x ++ 32 :: textY (y :: m)
theorem textY_snoc : ∀ (m : List Ly) (x : Ly), textY (m ++ [x]) = if m = [] then wordY x else textY m ++ 32 :: wordY x
  | [], _ => rfl
  | [y], x => by simp [textY]
  | y :: z :: m, x => by
    have ih := textY_snoc (z :: m) x
    rw [if_neg (by simp)] at ih ⊢
    show wordY y ++ 32 :: textY (z :: m ++ [x]) = wordY y ++ 32 :: textY (z :: m) ++ 32 :: wordY x
    rw [ih]
    simp
theorem dec_len {n : Int} (k : Nat) (hk : 1 ≤ k) (h : n.toNat < 10 ^ k) : (decDigits n.toNat).length ≤ k := by rw [decDigits_length]; exact nDigits_le k _ hk h
theorem wordY_len {m : List Ly} (h : LyOk m) {x : Ly} (hx : x ∈ m) : (wordY x).length ≤ 21 := by
  obtain ⟨p1, p2, p3⟩ := h.pos x hx
  have hm : x.1 ≤ hasY m := by
    obtain ⟨s, t, rfl⟩ := List.append_of_mem hx
    have h1 : PosY s := fun y hy => h.pos y (by simp [hy])
    have h2 : PosY t := fun y hy => h.pos y (by simp [hy])
    have := hasY_nonneg h1
    have := hasY_nonneg h2
    rw [hasY_app, hasY_cons]
    omega
  have := h.most
  have h1 := dec_len (n := x.1) 13 (by decide) (by omega)
  have h2 := dec_len (n := x.2) 7 (by decide) (by omega)
  unfold wordY
  rw [List.length_append, List.length_cons]
  omega
theorem textY_len : ∀ (m : List Ly), (∀ x ∈ m, (wordY x).length ≤ 21) → (textY m).length ≤ 22 * m.length
  | [], _ => Nat.le_refl _
  | [x], h => by have := h x (by simp); show (wordY x).length ≤ _; simp; omega
  | x :: y :: m, h => by
    have h1 := h x (by simp)
    have h2 := textY_len (y :: m) fun z hz => h z (List.mem_cons_of_mem _ hz)
    show (wordY x ++ 32 :: textY (y :: m)).length ≤ _
    rw [List.length_append, List.length_cons, List.length_cons]
    omega
end Go.Proofs.YtefkchmahcjleaaDoor
