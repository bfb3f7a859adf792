/-
  The law GoodsBack walked, in every world that holds strconv's table of powers as the program lays it: it answers true and leaves what was there as it was.
-/
import Derived.Test.YtmgjjmgponebcaaDoorText
namespace Go.Proofs.YtmgjjmgponebcaaDoor
open Go.RowKit Go.Lib Go.Sort

theorem bytes_ext {X Y : ByteArray} (h : X.toList = Y.toList) : X = Y := by
  rw [toList_data, toList_data] at h
  cases X; cases Y
  simp at h
  rw [h]

theorem text_38 : textOf 38 12 = [51, 99, 50] := by
  unfold textOf
  rw [if_pos ⟨by decide, by decide, by decide⟩, if_neg (by decide), if_neg (by decide), decDigits_one (by decide), decDigits_one (by decide)]
  decide

set_option maxHeartbeats 1000000 in
theorem told_any (w : World) (hp : Pow w) : Calls Tryd.prog 10 #[] w fun e w' => e = .returned (.bool true) ∧ Below w.heap.size w w' := by
  have hr := read_good ⟨#[51, 99, 50]⟩ 12 w (by decide) (by decide) (by decide) 3 2 (by decide) (by decide)
  have ht : ∀ k, Calls Tryd.prog 15 #[.int .i64 38, .int .i64 12] (w.drewN k) fun e w' => e = .returned (.string ⟨#[51, 99, 50]⟩) ∧ Below w.heap.size w w' := fun k => by
    have := text_any 38 12 (w.drewN k) (hp.below (below_drewN (Below.refl _ _) k))
    rw [text_38] at this
    refine this.mono ?_
    rintro e w' ⟨rfl, hb⟩
    exact ⟨rfl, (below_drewN (Below.refl _ _) k).trans hb⟩
  go_enter Tryd.func10, Tryd.ntmps10
  go_wp2_with (first | (go_at_call 11; refine hr.mono ?_; rintro e w1 ⟨rfl, n, rfl⟩) | (go_at_call 15; refine (ht _).mono ?_; rintro e w1 ⟨rfl, hb⟩))
  go_ret
  exact ⟨rfl, hb⟩

set_option maxHeartbeats 2000000 in
theorem back_out (n m pack : Int) (w : World) (hp : Pow w) (h : ¬ (0 ≤ n ∧ n ≤ 1099511627776 ∧ 0 ≤ m ∧ m ≤ 1099511627776 ∧ 1 ≤ pack ∧ pack ≤ 1000)) :
    Calls Tryd.prog 5 #[.int .i64 n, .int .i64 m, .int .i64 pack] w fun e w' => e = .returned (.bool true) ∧ Below w.heap.size w w' := by
  have ht := told_any w hp
  have H : Hid (Calls Tryd.prog 10 #[] w fun e w' => e = .returned (.bool true) ∧ Below w.heap.size w w') := ht
  clear ht hp
  have h' : n < 0 ∨ (0 ≤ n ∧ 1099511627776 < n) ∨ (0 ≤ n ∧ n ≤ 1099511627776 ∧ m < 0) ∨ (0 ≤ n ∧ n ≤ 1099511627776 ∧ 0 ≤ m ∧ 1099511627776 < m) ∨ (0 ≤ n ∧ n ≤ 1099511627776 ∧ 0 ≤ m ∧ m ≤ 1099511627776 ∧ pack < 1) ∨ (0 ≤ n ∧ n ≤ 1099511627776 ∧ 0 ≤ m ∧ m ≤ 1099511627776 ∧ 1 ≤ pack ∧ 1000 < pack) := by omega
  clear h
  rcases h' with h1 | ⟨h1, h2⟩ | ⟨h1, h2, h3⟩ | ⟨h1, h2, h3, h4⟩ | ⟨h1, h2, h3, h4, h5⟩ | ⟨h1, h2, h3, h4, h5, h6⟩
  all_goals
    go_enter Tryd.func5, Tryd.ntmps5
    go_wp2_with (go_at_call 10; refine H.out.mono ?_; rintro e w1 ⟨rfl, hb⟩)
    go_ret
    exact ⟨rfl, hb⟩

theorem read_back (n pack : Int) (h0 : 0 ≤ n) (h1 : n ≤ 1099511627776) (p1 : 1 ≤ pack) (p2 : pack ≤ 1000) : ∃ c p : Nat, partsOf (textOf n pack) = some (c, p) ∧ (c : Int) * pack + p = n := by
  have hpw : pw pack = true := by unfold pw; rw [decide_eq_true p1, decide_eq_true p2]; rfl
  have h := read_text n pack h0 h1 hpw
  unfold readOf at h
  rw [if_pos hpw] at h
  split at h
  · exact absurd (Prod.mk.inj h).2 (by decide)
  · rename_i c p hc
    split at h
    · exact absurd (Prod.mk.inj h).2 (by decide)
    · exact ⟨c, p, hc, congrArg Prod.fst h⟩
theorem text_size (n pack : Int) (h0 : 0 ≤ n) (h1 : n ≤ 1099511627776) (p1 : 1 ≤ pack) : (textOf n pack).length ≤ 27 := by
  unfold textOf
  split
  · have hd0 : 0 ≤ n / pack := Int.ediv_nonneg h0 (by omega)
    have hd1 : n / pack ≤ n := Int.ediv_le_self pack h0
    have hr0 := Int.emod_nonneg n (show pack ≠ 0 by omega)
    have hr1 := Int.emod_lt_of_pos n (show 0 < pack by omega)
    rename_i hh
    have hpp : pack ≤ 1000 := by have := hh.2.2; unfold pw at this; simp at this; omega
    split
    · have := dec_short n.toNat (by omega)
      omega
    · have e1 := dec_short (n / pack).toNat (by omega)
      have e2 := dec_short (n % pack).toNat (by omega)
      rw [List.length_append, List.length_cons]
      split
      · simp; omega
      · omega
  · simp

set_option maxHeartbeats 2000000 in
theorem back_in (n m pack : Int) (w : World) (hp : Pow w) (n0 : 0 ≤ n) (n1 : n ≤ 1099511627776) (m0 : 0 ≤ m) (m1 : m ≤ 1099511627776) (p1 : 1 ≤ pack) (p2 : pack ≤ 1000) :
    Calls Tryd.prog 5 #[.int .i64 n, .int .i64 m, .int .i64 pack] w fun e w' => e = .returned (.bool true) ∧ Below w.heap.size w w' := by
  have ht := told_any w hp
  have hpw : pw pack = true := by unfold pw; rw [decide_eq_true p1, decide_eq_true p2]; rfl
  have hlen := text_size n pack n0 n1 p1
  obtain ⟨c, p, hcp, hval⟩ := read_back n pack n0 n1 p1 p2
  have hinj : n ≠ m → (⟨(textOf n pack).toArray⟩ : ByteArray) ≠ ⟨(textOf m pack).toArray⟩ := fun hne he => hne (text_inj n m pack n0 n1 m0 m1 hpw (by have := congrArg (fun s : ByteArray => s.data.toList) he; simpa using this))
  have hT : ∀ (k : Int) (w1 : World), Below w.heap.size w w1 → Calls Tryd.prog 15 #[.int .i64 k, .int .i64 pack] w1 fun e w' => e = .returned (.string ⟨(textOf k pack).toArray⟩) ∧ Below w.heap.size w w' := fun k w1 hb => by
    refine (text_any k pack w1 (hp.below hb)).mono ?_
    rintro e w' ⟨rfl, hb'⟩
    exact ⟨rfl, hb.trans (hb'.mono hb.size)⟩
  have hR : ∀ (w1 : World), Below w.heap.size w w1 → Calls Tryd.prog 11 #[.string ⟨(textOf n pack).toArray⟩, .int .i64 pack] w1 fun e w' => e = .returned (.tuple #[.int .i64 n, .nilIface]) ∧ Below w.heap.size w w' := fun w1 hb => by
    have := read_good ⟨(textOf n pack).toArray⟩ pack w1 (by rw [← size_len, bytes_toList]; unfold maxLen; omega) p1 p2 c p (by rw [bytes_toList]; exact hcp) (by omega)
    rw [hval] at this
    refine this.mono ?_
    rintro e w' ⟨rfl, k, rfl⟩
    exact ⟨rfl, below_drewN hb k⟩
  have HT : Hid (Calls Tryd.prog 10 #[] w fun e w' => e = .returned (.bool true) ∧ Below w.heap.size w w') := ht
  have HX := hT n
  have HY := hT m
  clear hT hcp hval hp ht hlen hpw
  by_cases hnm : n = m
  · subst hnm
    clear hinj HY
    generalize (⟨(textOf n pack).toArray⟩ : ByteArray) = X at *
    go_enter Tryd.func5, Tryd.ntmps5
    go_wp2_with (first | (go_at_call 10; refine HT.out.mono ?_; rintro e w1 ⟨rfl, hb⟩) | (go_at_call 15; refine (HX _ (by assumption)).mono ?_; rintro e w2 ⟨rfl, hb2⟩) | (go_at_call 11; refine (hR _ (by assumption)).mono ?_; rintro e w3 ⟨rfl, hb3⟩))
    go_ret
    exact ⟨by simp, by assumption⟩
  · have hXY := hinj hnm
    have hb' : (n == m) = false := by simpa using hnm
    clear hinj hnm
    generalize (⟨(textOf n pack).toArray⟩ : ByteArray) = X at *
    generalize (⟨(textOf m pack).toArray⟩ : ByteArray) = Y at *
    go_enter Tryd.func5, Tryd.ntmps5
    go_wp2_with (first | (go_at_call 10; refine HT.out.mono ?_; rintro e w1 ⟨rfl, hb⟩) | (go_at_call_of 15 (Value.int .i64 n); refine (HX _ (by assumption)).mono ?_; rintro e w2 ⟨rfl, hb2⟩) | (go_at_call_of 15 (Value.int .i64 m); refine (HY _ (by assumption)).mono ?_; rintro e w4 ⟨rfl, hb4⟩) | (go_at_call 11; refine (hR _ (by assumption)).mono ?_; rintro e w3 ⟨rfl, hb3⟩))
    go_ret
    exact ⟨by simp; intro he; exact hXY (bytes_ext he), by assumption⟩
end Go.Proofs.YtmgjjmgponebcaaDoor
