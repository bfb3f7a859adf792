/-
  What piecesText answers of an entry of pieces that is well: its text; over every world that holds the sentinels and strconv's table of powers as the program lays them; nothing old is turned.
-/
import Derived.Test.YtgdhfipbbijngaaGreatDoorETextM
import Derived.RegionTactic
namespace Go.Proofs.YtgdhfipbbijngaaGreatDoor
open Go.RowKit Go.Lib Go.Sort

set_option maxRecDepth 100000 in
set_option maxHeartbeats 8000000 in
theorem ptx_move (e : En) (w : World) (s : Nat → Addr) (hk : e.1 = kMove) (hok : PieceOk .move e) (hs : Es w s) (hp : Pow w) :
    Calls Tryz.prog 30 #[agE e] w fun r w' => r = .returned (.string (arr (entB e))) ∧ Below w.heap.size w w' := by
  have hB : Below w.heap.size w (w.alloc (celE e)) := (Below.refl _ w).alloc (Nat.le_refl _) _
  have hE := BlkE.new w e
  have hPl := places_move w.heap.size (w.alloc (celE e)) (by rw [← hk]; exact hE.at.c0)
  have HT := text_move (e := e) (by rw [hk]; rfl)
  have bk := hok.k
  have bl8 := hok.li
  have bd := decB_size hok.n2
  have hI := fun w1 (hb : Below w.heap.size w w1) => itoa_any e.2.2.2.2.2 (by have := hok.n1; omega) (by have := hok.n2; omega) w1 (hp.below hb)
  have bf := ptext_short (hok.fr rfl)
  have hF := fun w1 (hb : Below w.heap.size w w1) => ptext_any e.2.2.2.1 w1 s (by have := name_short (okP_bounds (okP_of (hok.fr rfl))).1; unfold maxLen; omega) (hs.three.two.below hb) (hp.below hb)
  have bt := ptext_short (hok.tow rfl)
  have hT := fun w1 (hb : Below w.heap.size w w1) => ptext_any e.2.2.2.2.1 w1 s (by have := name_short (okP_bounds (okP_of (hok.tow rfl))).1; unfold maxLen; omega) (hs.three.two.below hb) (hp.below hb)
  rw [← HT]
  clear HT hok hs hp
  obtain ⟨k, ⟨gc, gp⟩, ⟨li, lc, lu, lk⟩, ⟨fz, fr, fb⟩, ⟨tz, tr, tb⟩, n⟩ := e
  unfold agE celE decB bl at *
  unfold agP at *
  simp only at *
  subst hk
  have e1 : (⟨#[32]⟩ : ByteArray).size = 1 := rfl
  generalize (⟨(decDigits n.toNat).toArray⟩ : ByteArray) = td at *
  generalize ptext (fz, fr, fb) = tf at *
  generalize ptext (tz, tr, tb) = tt at *
  have s1 : (kMove ++ (⟨#[32]⟩ : ByteArray)).size ≤ 6 := by rw [ByteArray.size_append, e1]; omega
  have s2 : ((kMove ++ (⟨#[32]⟩ : ByteArray)) ++ li).size ≤ 14 := by rw [ByteArray.size_append]; omega
  have s3 : ((⟨#[32]⟩ : ByteArray) ++ tf).size ≤ 37 := by rw [ByteArray.size_append, e1]; omega
  have s4 : (((kMove ++ (⟨#[32]⟩ : ByteArray)) ++ li) ++ ((⟨#[32]⟩ : ByteArray) ++ tf)).size ≤ 51 := by rw [ByteArray.size_append]; omega
  have s5 : ((⟨#[32]⟩ : ByteArray) ++ tt).size ≤ 37 := by rw [ByteArray.size_append, e1]; omega
  have s6 : ((((kMove ++ (⟨#[32]⟩ : ByteArray)) ++ li) ++ ((⟨#[32]⟩ : ByteArray) ++ tf)) ++ ((⟨#[32]⟩ : ByteArray) ++ tt)).size ≤ 88 := by rw [ByteArray.size_append]; omega
  have s7 : (((((kMove ++ (⟨#[32]⟩ : ByteArray)) ++ li) ++ ((⟨#[32]⟩ : ByteArray) ++ tf)) ++ ((⟨#[32]⟩ : ByteArray) ++ tt)) ++ (⟨#[32]⟩ : ByteArray)).size ≤ 89 := by rw [ByteArray.size_append, e1]; omega
  have hB01 : Below (w.alloc (.cells #[.string kMove, .string gc, .int .i64 gp, .string li, .string lc, .int .i64 lu, .int .i64 lk, .string fz, .int .i64 fr, .int .i64 fb, .string tz, .int .i64 tr, .int .i64 tb, .int .i64 n] 29)).heap.size (w.alloc (.cells #[.string kMove, .string gc, .int .i64 gp, .string li, .string lc, .int .i64 lu, .int .i64 lk, .string fz, .int .i64 fr, .int .i64 fb, .string tz, .int .i64 tr, .int .i64 tb, .int .i64 n] 29)) ((w.alloc (.cells #[.string kMove, .string gc, .int .i64 gp, .string li, .string lc, .int .i64 lu, .int .i64 lk, .string fz, .int .i64 fr, .int .i64 fb, .string tz, .int .i64 tr, .int .i64 tb, .int .i64 n] 29)).alloc (.cells #[.pointer (some ⟨w.heap.size, 7, none⟩), .pointer (some ⟨w.heap.size, 10, none⟩)] 77)).drew := ((Below.refl _ _).alloc (Nat.le_refl _) _).drew
  have hE1 := hE.below hB01
  have hB1 : Below w.heap.size w ((w.alloc (.cells #[.string kMove, .string gc, .int .i64 gp, .string li, .string lc, .int .i64 lu, .int .i64 lk, .string fz, .int .i64 fr, .int .i64 fb, .string tz, .int .i64 tr, .int .i64 tb, .int .i64 n] 29)).alloc (.cells #[.pointer (some ⟨w.heap.size, 7, none⟩), .pointer (some ⟨w.heap.size, 10, none⟩)] 77)).drew := hB.trans (hB01.mono hB.size)
  have hp1 : ((w.alloc (.cells #[.string kMove, .string gc, .int .i64 gp, .string li, .string lc, .int .i64 lu, .int .i64 lk, .string fz, .int .i64 fr, .int .i64 fb, .string tz, .int .i64 tr, .int .i64 tb, .int .i64 n] 29)).alloc (.cells #[.pointer (some ⟨w.heap.size, 7, none⟩), .pointer (some ⟨w.heap.size, 10, none⟩)] 77)).drew.cell? ⟨w.heap.size + 1, 1, none⟩ = some (.pointer (some ⟨w.heap.size, 10, none⟩)) := by simp
  obtain ⟨a0, a1, a2, a3, a4, a5, a6, a7, a8, a9, a10, a11, a12, a13⟩ := hE1.at
  simp only at a0 a1 a2 a3 a4 a5 a6 a7 a8 a9 a10 a11 a12 a13
  have HP : Hid (Calls Tryz.prog 43 _ _ _) := hPl
  clear hPl hE hB hB01
  go_enter Tryz.func30, Tryz.ntmps30
  go_wp2_with (first | (go_at_call 43; refine HP.out.mono ?_; rintro e w1 ⟨rfl, rfl⟩) | (go_at_call_of 45 (Value.agg #[.string fz, .int .i64 fr, .int .i64 fb]); refine (hF _ hB1).mono ?_; rintro e w3 ⟨rfl, hb3⟩; have hBl := hB1.trans (hb3.mono hB1.size); obtain ⟨c0, c1, c2, c3, c4, c5, c6, c7, c8, c9, c10, c11, c12, c13⟩ := (hE1.below hb3).at; simp only at c0 c1 c2 c3 c4 c5 c6 c7 c8 c9 c10 c11 c12 c13; have hp3 : w3.cell? ⟨w.heap.size + 1, 1, none⟩ = some (.pointer (some ⟨w.heap.size, 10, none⟩)) := (hb3.cell (p := ⟨w.heap.size + 1, 1, none⟩) (by simp)).trans hp1) | (go_at_call_of 45 (Value.agg #[.string tz, .int .i64 tr, .int .i64 tb]); refine (hT _ hBl).mono ?_; rintro e w4 ⟨rfl, hb4⟩; have hBl4 := hBl.trans (hb4.mono hBl.size); obtain ⟨d0, d1, d2, d3, d4, d5, d6, d7, d8, d9, d10, d11, d12, d13⟩ := ((hE1.below hb3).below hb4).at; simp only at d0 d1 d2 d3 d4 d5 d6 d7 d8 d9 d10 d11 d12 d13) | (go_at_call 28; refine (hI _ hBl4).mono ?_; rintro e w5 ⟨rfl, hb5⟩))
  refine wp_loop_rounds 3 ?_
  rw [rounds_succ]
  go_wp2_with (first | (go_at_call 43; refine HP.out.mono ?_; rintro e w1 ⟨rfl, rfl⟩) | (go_at_call_of 45 (Value.agg #[.string fz, .int .i64 fr, .int .i64 fb]); refine (hF _ hB1).mono ?_; rintro e w3 ⟨rfl, hb3⟩; have hBl := hB1.trans (hb3.mono hB1.size); obtain ⟨c0, c1, c2, c3, c4, c5, c6, c7, c8, c9, c10, c11, c12, c13⟩ := (hE1.below hb3).at; simp only at c0 c1 c2 c3 c4 c5 c6 c7 c8 c9 c10 c11 c12 c13; have hp3 : w3.cell? ⟨w.heap.size + 1, 1, none⟩ = some (.pointer (some ⟨w.heap.size, 10, none⟩)) := (hb3.cell (p := ⟨w.heap.size + 1, 1, none⟩) (by simp)).trans hp1) | (go_at_call_of 45 (Value.agg #[.string tz, .int .i64 tr, .int .i64 tb]); refine (hT _ hBl).mono ?_; rintro e w4 ⟨rfl, hb4⟩; have hBl4 := hBl.trans (hb4.mono hBl.size); obtain ⟨d0, d1, d2, d3, d4, d5, d6, d7, d8, d9, d10, d11, d12, d13⟩ := ((hE1.below hb3).below hb4).at; simp only at d0 d1 d2 d3 d4 d5 d6 d7 d8 d9 d10 d11 d12 d13) | (go_at_call 28; refine (hI _ hBl4).mono ?_; rintro e w5 ⟨rfl, hb5⟩))
  rw [rounds_succ]
  go_wp2_with (first | (go_at_call 43; refine HP.out.mono ?_; rintro e w1 ⟨rfl, rfl⟩) | (go_at_call_of 45 (Value.agg #[.string fz, .int .i64 fr, .int .i64 fb]); refine (hF _ hB1).mono ?_; rintro e w3 ⟨rfl, hb3⟩; have hBl := hB1.trans (hb3.mono hB1.size); obtain ⟨c0, c1, c2, c3, c4, c5, c6, c7, c8, c9, c10, c11, c12, c13⟩ := (hE1.below hb3).at; simp only at c0 c1 c2 c3 c4 c5 c6 c7 c8 c9 c10 c11 c12 c13; have hp3 : w3.cell? ⟨w.heap.size + 1, 1, none⟩ = some (.pointer (some ⟨w.heap.size, 10, none⟩)) := (hb3.cell (p := ⟨w.heap.size + 1, 1, none⟩) (by simp)).trans hp1) | (go_at_call_of 45 (Value.agg #[.string tz, .int .i64 tr, .int .i64 tb]); refine (hT _ hBl).mono ?_; rintro e w4 ⟨rfl, hb4⟩; have hBl4 := hBl.trans (hb4.mono hBl.size); obtain ⟨d0, d1, d2, d3, d4, d5, d6, d7, d8, d9, d10, d11, d12, d13⟩ := ((hE1.below hb3).below hb4).at; simp only at d0 d1 d2 d3 d4 d5 d6 d7 d8 d9 d10 d11 d12 d13) | (go_at_call 28; refine (hI _ hBl4).mono ?_; rintro e w5 ⟨rfl, hb5⟩))
  rw [rounds_succ]
  go_wp2_with (first | (go_at_call 43; refine HP.out.mono ?_; rintro e w1 ⟨rfl, rfl⟩) | (go_at_call_of 45 (Value.agg #[.string fz, .int .i64 fr, .int .i64 fb]); refine (hF _ hB1).mono ?_; rintro e w3 ⟨rfl, hb3⟩; have hBl := hB1.trans (hb3.mono hB1.size); obtain ⟨c0, c1, c2, c3, c4, c5, c6, c7, c8, c9, c10, c11, c12, c13⟩ := (hE1.below hb3).at; simp only at c0 c1 c2 c3 c4 c5 c6 c7 c8 c9 c10 c11 c12 c13; have hp3 : w3.cell? ⟨w.heap.size + 1, 1, none⟩ = some (.pointer (some ⟨w.heap.size, 10, none⟩)) := (hb3.cell (p := ⟨w.heap.size + 1, 1, none⟩) (by simp)).trans hp1) | (go_at_call_of 45 (Value.agg #[.string tz, .int .i64 tr, .int .i64 tb]); refine (hT _ hBl).mono ?_; rintro e w4 ⟨rfl, hb4⟩; have hBl4 := hBl.trans (hb4.mono hBl.size); obtain ⟨d0, d1, d2, d3, d4, d5, d6, d7, d8, d9, d10, d11, d12, d13⟩ := ((hE1.below hb3).below hb4).at; simp only at d0 d1 d2 d3 d4 d5 d6 d7 d8 d9 d10 d11 d12 d13) | (go_at_call 28; refine (hI _ hBl4).mono ?_; rintro e w5 ⟨rfl, hb5⟩))
  go_ret
  exact ⟨rfl, hBl4.trans (hb5.mono hBl4.size)⟩
end Go.Proofs.YtgdhfipbbijngaaGreatDoor
