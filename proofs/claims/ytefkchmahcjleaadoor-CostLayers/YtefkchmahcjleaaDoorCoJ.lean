/-
  What strings.Join answers of words of at most a hundred bytes and a blank between.
-/
import Derived.Test.YtefkchmahcjleaaDoorKBuild
import Derived.Test.YtefkchmahcjleaaDoorShelf
import Derived.Test.YtefkchmahcjleaaDoorItoa
namespace Go.Proofs.YtefkchmahcjleaaDoor
open Go.RowKit Go.Lib

def joinL : List ByteArray → List UInt8
  | [] => []
  | [x] => x.data.toList
  | x :: y :: m => x.data.toList ++ 32 :: joinL (y :: m)
theorem joinL_snoc : ∀ (m : List ByteArray) (x : ByteArray), joinL (m ++ [x]) = if m = [] then x.data.toList else joinL m ++ 32 :: x.data.toList
  | [], _ => rfl
  | [y], x => by simp [joinL]
  | y :: z :: m, x => by
    have ih := joinL_snoc (z :: m) x
    rw [if_neg (by simp)] at ih ⊢
    show y.data.toList ++ 32 :: joinL (z :: m ++ [x]) = y.data.toList ++ 32 :: joinL (z :: m) ++ 32 :: x.data.toList
    rw [ih]
    simp
theorem joinL_succ {xs : List ByteArray} {k : Nat} {x : ByteArray} (h : xs[k + 1]? = some x) : joinL (xs.take (k + 1 + 1)) = joinL (xs.take (k + 1)) ++ 32 :: x.data.toList := by
  have hlt := (List.getElem?_eq_some_iff.1 h).1
  rw [List.take_add_one, h]
  show joinL (xs.take (k + 1) ++ [x]) = _
  rw [joinL_snoc, if_neg]
  intro e
  have := congrArg List.length e
  rw [List.length_take, List.length_nil] at this
  omega
def lenJ (xs : List ByteArray) : Nat := (xs.map (·.size)).sum
theorem lenJ_succ {xs : List ByteArray} {k : Nat} {x : ByteArray} (h : xs[k]? = some x) : lenJ (xs.take (k + 1)) = lenJ (xs.take k) + x.size := by
  unfold lenJ
  rw [List.take_add_one, h]
  simp
theorem lenJ_bound : ∀ {xs : List ByteArray}, (∀ x ∈ xs, x.size ≤ 100) → lenJ xs ≤ 100 * xs.length
  | [], _ => Nat.le_refl _
  | x :: xs, h => by
    have h1 := h x (by simp)
    have h2 := lenJ_bound (xs := xs) fun y hy => h y (by simp [hy])
    unfold lenJ at *
    simp only [List.map_cons, List.sum_cons, List.length_cons]
    omega
theorem joinL_len : ∀ (xs : List ByteArray), (joinL xs).length ≤ lenJ xs + xs.length
  | [] => Nat.le_refl _
  | [x] => by unfold lenJ; simp [joinL]
  | x :: y :: m => by
    have ih := joinL_len (y :: m)
    have e : lenJ (x :: y :: m) = x.size + lenJ (y :: m) := by unfold lenJ; simp
    rw [e]
    show (x.data.toList ++ 32 :: joinL (y :: m)).length ≤ _
    rw [List.length_append, List.length_cons, size_len, List.length_cons]
    omega
theorem joinL_take {xs : List ByteArray} (h : ∀ x ∈ xs, x.size ≤ 100) (hn : xs.length ≤ 1000) (k : Nat) : (joinL (xs.take k)).length ≤ 101000 := by
  have h1 := joinL_len (xs.take k)
  have h2 := lenJ_bound (xs := xs.take k) fun x hx => h x (List.mem_of_mem_take hx)
  have h3 := List.length_take_le' k xs
  omega
/-- A builder that has room. -/
theorem bld_of {b : Nat} {w : World} (h : BuilderAt 61 5 b b (.pointer (some ⟨b, 0, none⟩)) [] w) : Bld (b + 1) b [] w := by
  obtain ⟨_, v, h1, ⟨h2, h3⟩, h4⟩ := h
  refine ⟨Nat.lt_succ_self _, _, v, Or.inr rfl, h1, h2, ?_⟩
  rcases h3 with h3 | ⟨g, cap, cur, rfl, hg, r⟩
  · exact Or.inl h3
  · refine Or.inr ⟨g, cap, cur, rfl, ?_, r⟩
    have : g ≠ b := fun e => h4 (by rw [e]; rfl)
    omega
theorem bld_grow (n : Nat) (w : World) (hn : n ≤ 1000000) :
    Calls Tryd.prog 27 #[.pointer (some ⟨w.heap.size, 0, none⟩), .int .i64 n] (w.alloc (.cells #[.pointer none, .slice none 0 0] 61)) fun e w' => e = .returned (.tuple #[]) ∧ Bld (w.heap.size + 1) w.heap.size [] w' ∧ Below w.heap.size w w' :=
  (Tryd.Builder_Grow_fresh w.heap.size w.heap.size n _ (Nat.le_refl _) (heap_alloc_new w _) (by simp) (by omega)).mono fun e w' ⟨h1, h2, h3⟩ => ⟨h1, bld_of h2, ((Below.refl w.heap.size w).alloc (Nat.le_refl _) _).trans h3⟩
set_option maxHeartbeats 4000000 in
set_option maxRecDepth 100000 in
/-- strings.Join, of two words or more. -/
theorem join_many (bk c : Nat) (xs : List ByteArray) (w : World) (hc : ∀ j x, xs[j]? = some x → w.cell? ⟨bk, j, none⟩ = some (.string x)) (hbk : bk < w.heap.size) (h2 : 2 ≤ xs.length) (hN : xs.length ≤ 1000) (hcap : xs.length ≤ c) (hl : ∀ x ∈ xs, x.size ≤ 100) :
    Calls Tryd.prog 23 #[.slice (some ⟨bk, 0, none⟩) xs.length c, .string ⟨#[32]⟩] w fun e w' => e = .returned (.string ⟨(joinL xs).toArray⟩) ∧ Below w.heap.size w w' := by
  obtain ⟨x0, hx0⟩ : ∃ x, xs[0]? = some x := ⟨_, List.getElem?_eq_getElem (by omega)⟩
  have HX0 : Hid (xs[0]? = some x0) := hx0
  have HJ0 : Hid (joinL (xs.take 1) = x0.data.toList) := by
    show _ = _
    rw [List.take_add_one, hx0]; rfl
  have HC : Hid (∀ W, Below w.heap.size w W → ∀ j x, xs[j]? = some x → W.cell? ⟨bk, j, none⟩ = some (.string x)) := fun W hb j x hx => (hb.cell (p := ⟨bk, j, none⟩) hbk).trans (hc j x hx)
  have HL : Hid (∀ x ∈ xs, x.size ≤ 100) := hl
  have HT : Hid (∀ k, (joinL (xs.take k)).length ≤ 101000) := joinL_take hl hN
  have HB : Hid (∀ k, lenJ (xs.take k) ≤ 100000) := fun k => by
    have h1 := lenJ_bound (xs := xs.take k) fun x hx => hl x (List.mem_of_mem_take hx)
    have h3 := List.length_take_le' k xs
    omega
  obtain ⟨ln, hln⟩ : ∃ ln, ln = xs.length := ⟨_, rfl⟩
  have HLn : Hid (ln = xs.length) := hln
  rw [← hln] at h2 hN hcap ⊢
  have hdv : ¬ (9223372036854775807 / ((ln : Int) - 1) ≤ 1) := by
    have : 2 ≤ 9223372036854775807 / ((ln : Int) - 1) := Int.le_ediv_of_mul_le (by omega) (by omega)
    omega
  have hne0 : ((ln : Int) == 0) = false := beq_eq_false_iff_ne.2 (by omega)
  have hne1 : ((ln : Int) == 1) = false := beq_eq_false_iff_ne.2 (by omega)
  have hs1 : (⟨#[32]⟩ : ByteArray).size = 1 := rfl
  clear hc hl hx0 hln
  go_enter Tryd.func23, Tryd.ntmps23
  go_wp2_with fail
  go_loop [5, 41] (fun n i => ∃ k : Nat, k ≤ ln ∧ i = .int .i64 k ∧ n = .int .i64 ((ln : Int) - 1 + lenJ (xs.take k))) (fun _ i => ln - (RowKit.intOf i).toNat)
  case atStart => exact ⟨0, Nat.zero_le _, rfl, by simp [lenJ]⟩
  case round =>
    obtain ⟨k, hk, rfl, rfl⟩ := hrel
    by_cases hlt : k < ln
    · obtain ⟨x, hx⟩ : ∃ x, xs[k]? = some x := ⟨_, List.getElem?_eq_getElem (by rw [← HLn.out]; exact hlt)⟩
      have c0 := HC.out w (Below.refl _ _) k x hx
      have hE := lenJ_succ hx
      have b1 := HB.out (k + 1)
      have b0 := HB.out k
      have HE : Hid (lenJ (xs.take (k + 1)) = lenJ (xs.take k) + x.size) := hE
      rw [hE] at b1
      generalize lenJ (xs.take k) = J at *
      clear hx hE
      go_wp2
      go_round
      case rel => exact ⟨k + 1, by omega, by go_num, by rw [HE.out]; congr 1; omega⟩
      case measure => simp [RowKit.intOf]; omega
    · have hkn : k = ln := by omega
      subst hkn
      have e : xs.take k = xs := List.take_of_length_le (by rw [← HLn.out]; exact Nat.le_refl _)
      have b0 := HB.out k
      rw [e] at b0 ⊢
      obtain ⟨n, hn⟩ : ∃ n : Nat, (k : Int) - 1 + lenJ xs = n := ⟨k - 1 + lenJ xs, by omega⟩
      have hn2 : n ≤ 101000 := by omega
      rw [hn]
      have HG : Hid (Calls Tryd.prog 27 _ _ _) := bld_grow n w (by omega)
      have hz0 := HL.out x0 (List.mem_of_getElem? HX0.out)
      clear hn e b0
      go_wp2_with (first
        | (go_at_call 27; refine HG.out.mono ?_; rintro e w1 ⟨rfl, hB1, hb1⟩; have HB1 : Hid (Below w.heap.size w w1) := hb1; have c0 := HC.out w1 hb1 0 x0 HX0.out; have HW : Hid (Calls Tryd.prog 28 _ w1 _) := bld_write (w.heap.size + 1) w.heap.size [] x0 w1 hB1 (by simp; omega) (bld_lt hB1); clear hb1 hB1)
        | (go_at_call 28; refine HW.out.mono ?_; clear HW; rintro e w2 ⟨rfl, hB2, hb2⟩; have HB2 : Hid (Below w.heap.size w w2) := HB1.out.trans (hb2.below (Nat.le_succ _)); have HD2 : Hid (Bld (w.heap.size + 1) w.heap.size x0.data.toList w2) := (by rw [List.nil_append] at hB2; exact hB2); clear hB2 hb2))
      go_loopw [65] (fun i wr => ∃ j : Nat, j ≤ k - 1 ∧ i = .int .i64 j ∧ Bld (w.heap.size + 1) w.heap.size (joinL (xs.take (j + 1))) wr ∧ Below w.heap.size w wr) (fun i _ => k - 1 - (RowKit.intOf i).toNat)
      case atStart => exact ⟨0, Nat.zero_le _, rfl, by rw [Nat.zero_add, HJ0.out]; exact HD2.out, HB2.out⟩
      case round =>
        obtain ⟨j, hj, rfl, hd, hwr⟩ := hrel
        have HWr : Hid (Below w.heap.size w wr) := hwr
        by_cases hlt2 : j < k - 1
        · obtain ⟨y, hy⟩ : ∃ y, xs[j + 1]? = some y := ⟨_, List.getElem?_eq_getElem (by rw [← HLn.out]; omega)⟩
          have c1 := HC.out wr hwr (j + 1) y hy
          rw [Nat.add_comm] at c1
          have hz1 := HL.out y (List.mem_of_getElem? hy)
          have HE : Hid (joinL (xs.take (j + 1 + 1)) = joinL (xs.take (j + 1)) ++ 32 :: y.data.toList) := joinL_succ hy
          have hT := HT.out (j + 1)
          generalize joinL (xs.take (j + 1)) = L at *
          have HW1 : Hid (Calls Tryd.prog 28 _ wr _) := bld_write (w.heap.size + 1) w.heap.size L ⟨#[32]⟩ wr hd (by rw [hs1]; omega) (bld_lt hd)
          have hT2 : (L ++ (⟨#[32]⟩ : ByteArray).data.toList).length + y.size ≤ 1000000 := by
            rw [List.length_append]
            show L.length + 1 + _ ≤ _
            omega
          clear hy hd hwr
          go_wp2_with (first
            | (go_at_call 28; refine HW1.out.mono ?_; clear HW1; rintro e w3 ⟨rfl, hB3, hb3⟩; have HB3 : Hid (Below w.heap.size w w3) := HWr.out.trans (hb3.below (Nat.le_succ _)); have HW2 : Hid (Calls Tryd.prog 28 _ w3 _) := bld_write (w.heap.size + 1) w.heap.size _ y w3 hB3 hT2 (bld_lt hB3); clear hB3 hb3)
            | (go_at_call 28; refine HW2.out.mono ?_; clear HW2; rintro e w4 ⟨rfl, hB4, hb4⟩; have HB4 : Hid (Below w.heap.size w w4) := HB3.out.trans (hb4.below (Nat.le_succ _)); have HD4 : Hid (Bld (w.heap.size + 1) w.heap.size (L ++ (⟨#[32]⟩ : ByteArray).data.toList ++ y.data.toList) w4) := hB4; clear hB4 hb4))
          go_roundw
          case rel => exact ⟨j + 1, by omega, by go_num, by rw [HE.out]; have := HD4.out; rw [List.append_assoc] at this; exact this, HB4.out⟩
          case measure => simp [RowKit.intOf]; omega
        · have hjk : j + 1 = k := by omega
          have e : xs.take (j + 1) = xs := List.take_of_length_le (by rw [← HLn.out]; omega)
          rw [e] at hd
          have HS : Hid (Calls Tryd.prog 29 _ wr _) := bld_string _ _ _ wr hd
          clear hd hwr e
          go_wp2_with (go_at_call 29; refine HS.out.mono ?_; rintro e w5 ⟨rfl, hb5⟩)
          go_ret
          exact ⟨rfl, HWr.out.trans hb5⟩
set_option maxHeartbeats 2000000 in
/-- strings.Join, of one word. -/
theorem join_one (bk c : Nat) (x : ByteArray) (w : World) (hc : w.cell? ⟨bk, 0, none⟩ = some (.string x)) :
    Calls Tryd.prog 23 #[.slice (some ⟨bk, 0, none⟩) 1 c, .string ⟨#[32]⟩] w fun e w' => e = .returned (.string x) ∧ w' = w := by
  go_enter Tryd.func23, Tryd.ntmps23
  go_wp2
  go_ret
  exact ⟨rfl, rfl⟩
set_option maxHeartbeats 2000000 in
/-- strings.Join, of no word. -/
theorem join_none (p : Option Addr) (c : Nat) (w : World) :
    Calls Tryd.prog 23 #[.slice p 0 c, .string ⟨#[32]⟩] w fun e w' => e = .returned (.string ⟨#[]⟩) ∧ w' = w := by
  go_enter Tryd.func23, Tryd.ntmps23
  go_wp2
  go_ret
  exact ⟨rfl, rfl⟩
end Go.Proofs.YtefkchmahcjleaaDoor
