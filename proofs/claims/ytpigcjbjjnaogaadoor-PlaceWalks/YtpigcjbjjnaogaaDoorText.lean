/-
  What strconv.Itoa and goods.Text answer, over every world that holds strconv's table of powers as the program lays it.
-/
import Derived.Test.YtpigcjbjjnaogaaDoorGoods
namespace Go.Proofs.YtpigcjbjjnaogaaDoor
open Go.RowKit Go.Lib Go.Sort

/-- strconv's table of powers is laid. -/
def Pow (w : World) : Prop := TabIs Tryd.prog w "internal/strconv.uint64pow10" .u64 pow10Tab
theorem Pow.below {w w' : World} (h : Pow w) (hb : Below w.heap.size w w') : Pow w' := by
  unfold Pow TabIs World.var? at *
  cases hg : Tryd.prog.globalNamed "internal/strconv.uint64pow10" with
  | none => simp [hg] at h
  | some g =>
    simp only [hg, Option.bind_some] at h ⊢
    have hlt : g < w.heap.size := by
      rcases Nat.lt_or_ge g w.heap.size with h' | h'
      · exact h'
      · simp [Array.getElem?_eq_none h'] at h
    rw [hb.block g hlt]
    exact h
theorem below_grow (w : World) (k : Nat) (os : Array Obj) : Below w.heap.size w (grow (w.drewN k) os) :=
  ⟨rfl, rfl, rfl, by show w.heap.size ≤ (w.heap ++ os).size; simp, fun j hj => by show (w.heap ++ os)[j]? = _; rw [Array.getElem?_append_left hj]⟩

theorem itoa_any (n : Int) (h0 : 0 ≤ n) (h1 : n ≤ 9223372036854775807) (w : World) (hp : Pow w) :
    Calls Tryd.prog 39 #[.int .i64 n] w fun e w' => e = .returned (.string ⟨(decDigits n.toNat).toArray⟩) ∧ Below w.heap.size w w' := by
  refine (Tryd.strconv_Itoa n (by omega) h1 w hp).mono ?_
  rintro e w' ⟨rfl, k, os, rfl⟩
  refine ⟨?_, below_grow w k os⟩
  unfold itoa
  rw [if_neg (by omega)]

theorem dec_short (u : Nat) (h : u < 10 ^ 13) : (decDigits u).length ≤ 13 := by rw [decDigits_length]; exact nDigits_le 13 u (by decide) h

theorem str_append (a b : List UInt8) : (⟨a.toArray⟩ : ByteArray) ++ ⟨b.toArray⟩ = ⟨(a ++ b).toArray⟩ := by
  apply ByteArray.ext
  simp

theorem text_none (n pack : Int) (w : World) (h : ¬ (0 ≤ n ∧ n ≤ maxQ ∧ pw pack = true)) : Calls Tryd.prog 18 #[.int .i64 n, .int .i64 pack] w fun e w' => e = .returned (.string ⟨#[]⟩) ∧ w' = w := by
  have hq : maxQ = 1099511627776 := rfl
  by_cases a : n < 0
  · go_enter Tryd.func18, Tryd.ntmps18
    go_wp2
    go_ret
    exact ⟨rfl, rfl⟩
  · by_cases b : 1099511627776 < n
    · clear h hq
      go_enter Tryd.func18, Tryd.ntmps18
      go_wp2
      go_ret
      exact ⟨rfl, rfl⟩
    · have c : pw pack = false := by
        cases hp : pw pack with
        | false => rfl
        | true => exact absurd ⟨by omega, by omega, hp⟩ h
      have hc := packWell_no pack w c
      clear h hq c
      go_enter Tryd.func18, Tryd.ntmps18
      go_wp2_with (go_at_call 36; refine hc.mono ?_; rintro e w1 ⟨rfl, rfl⟩)
      go_ret
      exact ⟨rfl, rfl⟩

set_option maxHeartbeats 1000000 in
theorem text_few (n pack : Int) (w : World) (hp : Pow w) (h0 : 0 ≤ n) (h1 : n ≤ 1099511627776) (p1 : 1 ≤ pack) (p2 : pack ≤ 1000) (h : pack = 1 ∨ n < pack) :
    Calls Tryd.prog 18 #[.int .i64 n, .int .i64 pack] w fun e w' => e = .returned (.string ⟨(decDigits n.toNat).toArray⟩) ∧ Below w.heap.size w w' := by
  have hi := itoa_any n h0 (by omega) w hp
  have H : Hid (Calls Tryd.prog 39 #[.int .i64 n] w fun e w' => e = .returned (.string ⟨(decDigits n.toNat).toArray⟩) ∧ Below w.heap.size w w') := hi
  clear hi hp
  rcases h with rfl | h
  · go_enter Tryd.func18, Tryd.ntmps18
    go_wp2_with (first | (go_at_call 36; refine (packWell_yes _ _ p1 p2).mono ?_; rintro e w1 ⟨rfl, rfl⟩) | (go_at_call 39; refine H.out.mono ?_; rintro e w1 ⟨rfl, hb⟩))
    go_ret
    exact ⟨rfl, hb⟩
  · by_cases h3 : pack = 1
    · subst h3
      go_enter Tryd.func18, Tryd.ntmps18
      go_wp2_with (first | (go_at_call 36; refine (packWell_yes _ _ p1 p2).mono ?_; rintro e w1 ⟨rfl, rfl⟩) | (go_at_call 39; refine H.out.mono ?_; rintro e w1 ⟨rfl, hb⟩))
      go_ret
      exact ⟨rfl, hb⟩
    · have h4 : (pack == 1) = false := by simpa using h3
      go_enter Tryd.func18, Tryd.ntmps18
      go_wp2_with (first | (go_at_call 36; refine (packWell_yes _ _ p1 p2).mono ?_; rintro e w1 ⟨rfl, rfl⟩) | (go_at_call 39; refine H.out.mono ?_; rintro e w1 ⟨rfl, hb⟩))
      go_ret
      exact ⟨rfl, hb⟩

set_option maxHeartbeats 1000000 in
theorem text_even (n pack : Int) (w : World) (hp : Pow w) (h0 : 0 ≤ n) (h1 : n ≤ 1099511627776) (p1 : 1 ≤ pack) (p2 : pack ≤ 1000) (h : ¬ (pack = 1 ∨ n < pack)) (hr : n % pack = 0) :
    Calls Tryd.prog 18 #[.int .i64 n, .int .i64 pack] w fun e w' => e = .returned (.string ⟨(decDigits (n / pack).toNat ++ [99]).toArray⟩) ∧ Below w.heap.size w w' := by
  have h3 : (pack == 1) = false := by simp; omega
  have h4 : pack ≤ n := by omega
  have hd0 : 0 ≤ n / pack := Int.ediv_nonneg h0 (by omega)
  have hd1 : n / pack ≤ n := Int.ediv_le_self pack h0
  have hr' : (n % pack == 0) = true := by simpa using hr
  have hl1 := dec_short (n / pack).toNat (by omega)
  rw [← str_append]
  clear h hr
  go_enter Tryd.func18, Tryd.ntmps18
  go_wp2_with (first | (go_at_call 36; refine (packWell_yes _ _ p1 p2).mono ?_; rintro e w1 ⟨rfl, rfl⟩) | (go_at_call 39; refine (itoa_any _ hd0 (by omega) _ hp).mono ?_; rintro e w1 ⟨rfl, hb⟩))
  go_ret
  exact ⟨rfl, hb⟩
set_option maxHeartbeats 1000000 in
theorem text_odd (n pack : Int) (w : World) (hp : Pow w) (h0 : 0 ≤ n) (h1 : n ≤ 1099511627776) (p1 : 1 ≤ pack) (p2 : pack ≤ 1000) (h : ¬ (pack = 1 ∨ n < pack)) (hr : n % pack ≠ 0) :
    Calls Tryd.prog 18 #[.int .i64 n, .int .i64 pack] w fun e w' => e = .returned (.string ⟨(decDigits (n / pack).toNat ++ 99 :: decDigits (n % pack).toNat).toArray⟩) ∧ Below w.heap.size w w' := by
  have h3 : (pack == 1) = false := by simp; omega
  have h4 : pack ≤ n := by omega
  have hd0 : 0 ≤ n / pack := Int.ediv_nonneg h0 (by omega)
  have hd1 : n / pack ≤ n := Int.ediv_le_self pack h0
  have hr0 := Int.emod_nonneg n (show pack ≠ 0 by omega)
  have hr1 := Int.emod_lt_of_pos n (show 0 < pack by omega)
  have hr' : (n % pack == 0) = false := by simpa using hr
  have e : decDigits (n / pack).toNat ++ 99 :: decDigits (n % pack).toNat = (decDigits (n / pack).toNat ++ [99]) ++ decDigits (n % pack).toNat := by simp
  have hl1 := dec_short (n / pack).toNat (by omega)
  have hl2 := dec_short (n % pack).toNat (by omega)
  rw [e, ← str_append, ← str_append]
  clear h hr e
  go_enter Tryd.func18, Tryd.ntmps18
  go_wp2_with (first | (go_at_call 36; refine (packWell_yes _ _ p1 p2).mono ?_; rintro e w1 ⟨rfl, rfl⟩) | (go_at_call_of 39 (Value.int .i64 (n / pack)); refine (itoa_any _ hd0 (by omega) _ hp).mono ?_; rintro e w1 ⟨rfl, hb⟩) | (go_at_call_of 39 (Value.int .i64 (n % pack)); refine (itoa_any _ hr0 (by omega) _ (hp.below hb)).mono ?_; rintro e w2 ⟨rfl, hb2⟩))
  go_ret
  exact ⟨rfl, hb.trans (hb2.mono hb.size)⟩
/-- goods.Text. -/
theorem text_any (n pack : Int) (w : World) (hp : Pow w) :
    Calls Tryd.prog 18 #[.int .i64 n, .int .i64 pack] w fun e w' => e = .returned (.string ⟨(textOf n pack).toArray⟩) ∧ Below w.heap.size w w' := by
  by_cases h : 0 ≤ n ∧ n ≤ maxQ ∧ pw pack = true
  · have hpw : 1 ≤ pack ∧ pack ≤ 1000 := by have := h.2.2; unfold pw at this; simpa using this
    have hq : n ≤ 1099511627776 := h.2.1
    unfold textOf
    rw [if_pos h]
    by_cases hc : pack = 1 ∨ n < pack
    · rw [if_pos hc]
      exact text_few n pack w hp h.1 hq hpw.1 hpw.2 hc
    · rw [if_neg hc]
      by_cases hr : n % pack = 0
      · rw [if_pos hr]
        exact text_even n pack w hp h.1 hq hpw.1 hpw.2 hc hr
      · rw [if_neg hr]
        exact text_odd n pack w hp h.1 hq hpw.1 hpw.2 hc hr
  · have e : textOf n pack = [] := by unfold textOf; rw [if_neg h]
    rw [e]
    refine (text_none n pack w h).mono ?_
    rintro e w' ⟨rfl, rfl⟩
    exact ⟨rfl, Below.refl _ _⟩
end Go.Proofs.YtpigcjbjjnaogaaDoor
