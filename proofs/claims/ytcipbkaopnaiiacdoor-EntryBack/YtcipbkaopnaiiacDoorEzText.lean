/-
  An entry's text out of its pieces: sizes, joinings; no program is walked here. What piecesText answers of an entry of pieces that is well: its text; over every world that holds the sentinels and strconv's table of powers as the program lays them; nothing old is turned. What piecesText answers of an entry of pieces that is well: its text; over every world that holds the sentinels and strconv's table of powers as the program lays them; nothing old is turned. What entry.Text answers: an entry's text, an empty one where it is not well; over every world that holds the sentinels and strconv's table of powers as the program lays them; nothing old is turned.
-/
import Derived.Test.YtcipbkaopnaiiacDoorECheck
import Derived.RegionTactic
namespace Go.Proofs.YtcipbkaopnaiiacDoor
open Go.RowKit Go.Lib Go.Sort

theorem bytes_ext {a b : ByteArray} (h : a.data.toList = b.data.toList) : a = b := by cases a; cases b; simp at h; rw [h]
abbrev bl : ByteArray := ⟨#[32]⟩
theorem dec13 {u : Nat} (h : u < 10 ^ 13) : (decDigits u).length ≤ 13 := by simpa using dec_short u h
theorem ptext_short {x : Pl} (h : placeErr x = 0) : (ptext x).size ≤ 36 := by
  have hok := okP_of h
  obtain ⟨hn, a1, a2, a3, a4⟩ := okP_bounds hok
  have h1 := dec13 (u := x.2.1.toNat) (by omega)
  have h2 := dec13 (u := x.2.2.toNat) (by omega)
  have h3 := name_short hn
  rw [← size_len] at h3
  rw [← size_len]
  show (pbytes x).length ≤ 36
  rw [pbytes_ok hok]
  simp only [List.length_append, List.length_cons]
  omega
theorem decB_size {n : Int} (h : n ≤ 1099511627776) : (decB n).size ≤ 13 := dec_size _ (by omega)
theorem etext_ok {e : En} (h : entErr e = 0) : etext e = arr (entB e) := by unfold etext; rw [if_pos h]
theorem etext_no {e : En} (h : entErr e ≠ 0) : etext e = ⟨#[]⟩ := by unfold etext; rw [if_neg h]
theorem text_goods {e : En} (hk : e.1 = kGoods) : (((e.1 ++ bl) ++ e.2.1.1) ++ bl) ++ decB e.2.1.2 = arr (entB e) := by
  apply bytes_ext
  unfold entB decB
  rw [hk, kd_goods]
  simp only [append_bytes]
  simp
theorem text_lot {e : En} (hk : e.1 = kLot) (h : lotErr e.2.2.1 = 0) : (e.1 ++ bl) ++ ltext e.2.2.1 = arr (entB e) := by
  apply bytes_ext
  unfold entB ltext
  rw [hk, kd_lot, if_pos ((okL_err _).2 h)]
  simp only [append_bytes]
  simp
theorem ltext_size {x : Lo} (h : lotErr x = 0) : (ltext x).size ≤ 45 := by
  have hok := (okL_err x).2 h
  obtain ⟨hn, hn', a1, a2, a3, a4⟩ := okL_bounds hok
  have ha := name_short hn
  have hcs := name_short hn'
  have hl1 := dec_size x.2.2.1.toNat (by omega)
  have hl2 := dec_size x.2.2.2.toNat (by omega)
  have e : (⟨#[32]⟩ : ByteArray).size = 1 := rfl
  unfold ltext
  rw [if_pos hok]
  simp only [ByteArray.size_append, e]
  omega
theorem text_to {e : En} (hk : kd e.1 = .tow) : ((((e.1 ++ bl) ++ e.2.2.1.1) ++ (bl ++ ptext e.2.2.2.2.1)) ++ bl) ++ decB e.2.2.2.2.2 = arr (entB e) := by
  apply bytes_ext
  unfold entB decB pbytes
  rw [hk]
  simp only [append_bytes]
  simp
theorem text_from {e : En} (hk : kd e.1 = .frm) : ((((e.1 ++ bl) ++ e.2.2.1.1) ++ (bl ++ ptext e.2.2.2.1)) ++ bl) ++ decB e.2.2.2.2.2 = arr (entB e) := by
  apply bytes_ext
  unfold entB decB pbytes
  rw [hk]
  simp only [append_bytes]
  simp
theorem text_move {e : En} (hk : kd e.1 = .move) : (((((e.1 ++ bl) ++ e.2.2.1.1) ++ (bl ++ ptext e.2.2.2.1)) ++ (bl ++ ptext e.2.2.2.2.1)) ++ bl) ++ decB e.2.2.2.2.2 = arr (entB e) := by
  apply bytes_ext
  unfold entB decB pbytes
  rw [hk]
  simp only [append_bytes]
  simp
theorem text_hold {e : En} (hk : kd e.1 = .hold) : ((((e.1 ++ bl) ++ e.2.2.1.1)) ++ bl) ++ decB e.2.2.2.2.2 = arr (entB e) := by
  apply bytes_ext
  unfold entB decB
  rw [hk]
  simp only [append_bytes]
  simp
theorem kind_size {k : ByteArray} (h : kd k ≠ .other) : k.size ≤ 5 := by
  rcases kind_cases k with rfl | rfl | (rfl | rfl) | (rfl | rfl) | rfl | (rfl | rfl) | hn
  all_goals first | decide | exact absurd hn.kd h
/-- What is left to know of an entry of pieces that is well. -/
structure PieceOk (c : Kd) (e : En) : Prop where
  k : e.1.size ≤ 5
  li : e.2.2.1.1.size ≤ 8
  n1 : 1 ≤ e.2.2.2.2.2
  n2 : e.2.2.2.2.2 ≤ 1099511627776
  fr : kFrom c = true → placeErr e.2.2.2.1 = 0
  tow : kTo c = true → placeErr e.2.2.2.2.1 = 0
theorem piece_ok {c : Kd} {e : En} (h : pieceErr c e = 0) (hk : kd e.1 ≠ .other) : PieceOk c e := by
  obtain ⟨z1, z2, z3, z4, z5⟩ := pieceErr_zero h
  refine ⟨kind_size hk, name_short z1, z4, z5, fun h => ?_, fun h => ?_⟩
  · unfold fromErr at z2; rw [if_pos h] at z2; exact z2
  · unfold toErr at z3; rw [if_pos h] at z3; exact z3
end Go.Proofs.YtcipbkaopnaiiacDoor
namespace Go.Proofs.YtcipbkaopnaiiacDoor
open Go.RowKit Go.Lib Go.Sort

set_option maxRecDepth 100000 in
set_option maxHeartbeats 8000000 in
theorem ptx_to (e : En) (w : World) (s : Nat → Addr) (hk : e.1 = kIn ∨ e.1 = kMore) (hok : PieceOk .tow e) (hs : Es w s) (hp : Pow w) :
    Calls Tryd.prog 14 #[agE e] w fun r w' => r = .returned (.string (arr (entB e))) ∧ Below w.heap.size w w' := by
  have hB : Below w.heap.size w (w.alloc (celE e)) := (Below.refl _ w).alloc (Nat.le_refl _) _
  have hE := BlkE.new w e
  have hPl := places_to e.1 w.heap.size (w.alloc (celE e)) hk hE.at.c0
  have HT := text_to (e := e) (by rcases hk with hk | hk <;> rw [hk] <;> rfl)
  have bk := hok.k
  have bl8 := hok.li
  have bd := decB_size hok.n2
  have hI := fun w1 (hb : Below w.heap.size w w1) => itoa_any e.2.2.2.2.2 (by have := hok.n1; omega) (by have := hok.n2; omega) w1 (hp.below hb)
  have bt := ptext_short (hok.tow rfl)
  have hT := fun w1 (hb : Below w.heap.size w w1) => ptext_any e.2.2.2.2.1 w1 s (by have := name_short (okP_bounds (okP_of (hok.tow rfl))).1; unfold maxLen; omega) (hs.three.two.below hb) (hp.below hb)
  rw [← HT]
  clear HT hok hs hp
  obtain ⟨k, ⟨gc, gp⟩, ⟨li, lc, lu, lk⟩, ⟨fz, fr, fb⟩, ⟨tz, tr, tb⟩, n⟩ := e
  unfold agE celE decB bl at *
  unfold agP at *
  simp only at *
  clear hk
  have e1 : (⟨#[32]⟩ : ByteArray).size = 1 := rfl
  generalize (⟨(decDigits n.toNat).toArray⟩ : ByteArray) = td at *
  generalize ptext (tz, tr, tb) = tt at *
  have s1 : (k ++ (⟨#[32]⟩ : ByteArray)).size ≤ 6 := by rw [ByteArray.size_append, e1]; omega
  have s2 : ((k ++ (⟨#[32]⟩ : ByteArray)) ++ li).size ≤ 14 := by rw [ByteArray.size_append]; omega
  have s3 : ((⟨#[32]⟩ : ByteArray) ++ tt).size ≤ 37 := by rw [ByteArray.size_append, e1]; omega
  have s4 : (((k ++ (⟨#[32]⟩ : ByteArray)) ++ li) ++ ((⟨#[32]⟩ : ByteArray) ++ tt)).size ≤ 51 := by rw [ByteArray.size_append]; omega
  have s5 : ((((k ++ (⟨#[32]⟩ : ByteArray)) ++ li) ++ ((⟨#[32]⟩ : ByteArray) ++ tt)) ++ (⟨#[32]⟩ : ByteArray)).size ≤ 52 := by rw [ByteArray.size_append, e1]; omega
  have hB01 : Below (w.alloc (.cells #[.string k, .string gc, .int .i64 gp, .string li, .string lc, .int .i64 lu, .int .i64 lk, .string fz, .int .i64 fr, .int .i64 fb, .string tz, .int .i64 tr, .int .i64 tb, .int .i64 n] 29)).heap.size (w.alloc (.cells #[.string k, .string gc, .int .i64 gp, .string li, .string lc, .int .i64 lu, .int .i64 lk, .string fz, .int .i64 fr, .int .i64 fb, .string tz, .int .i64 tr, .int .i64 tb, .int .i64 n] 29)) ((w.alloc (.cells #[.string k, .string gc, .int .i64 gp, .string li, .string lc, .int .i64 lu, .int .i64 lk, .string fz, .int .i64 fr, .int .i64 fb, .string tz, .int .i64 tr, .int .i64 tb, .int .i64 n] 29)).alloc (.cells #[.pointer (some ⟨w.heap.size, 10, none⟩)] 48)) := (Below.refl _ _).alloc (Nat.le_refl _) _
  have hE1 := hE.below hB01
  have hB1 : Below w.heap.size w ((w.alloc (.cells #[.string k, .string gc, .int .i64 gp, .string li, .string lc, .int .i64 lu, .int .i64 lk, .string fz, .int .i64 fr, .int .i64 fb, .string tz, .int .i64 tr, .int .i64 tb, .int .i64 n] 29)).alloc (.cells #[.pointer (some ⟨w.heap.size, 10, none⟩)] 48)) := hB.trans (hB01.mono hB.size)
  obtain ⟨a0, a1, a2, a3, a4, a5, a6, a7, a8, a9, a10, a11, a12, a13⟩ := hE1.at
  simp only at a0 a1 a2 a3 a4 a5 a6 a7 a8 a9 a10 a11 a12 a13
  have HP : Hid (Calls Tryd.prog 18 _ _ _) := hPl
  clear hPl hE hB hB01
  go_enter Tryd.func14, Tryd.ntmps14
  go_wp2_with (first | (go_at_call 18; refine HP.out.mono ?_; rintro e w1 ⟨rfl, rfl⟩) | (go_at_call 24; refine (hT _ hB1).mono ?_; rintro e w3 ⟨rfl, hb3⟩; have hBl := hB1.trans (hb3.mono hB1.size); obtain ⟨c0, c1, c2, c3, c4, c5, c6, c7, c8, c9, c10, c11, c12, c13⟩ := (hE1.below hb3).at; simp only at c0 c1 c2 c3 c4 c5 c6 c7 c8 c9 c10 c11 c12 c13) | (go_at_call 12; refine (hI _ hBl).mono ?_; rintro e w5 ⟨rfl, hb5⟩))
  refine wp_loop_rounds 2 ?_
  rw [rounds_succ]
  go_wp2_with (first | (go_at_call 18; refine HP.out.mono ?_; rintro e w1 ⟨rfl, rfl⟩) | (go_at_call 24; refine (hT _ hB1).mono ?_; rintro e w3 ⟨rfl, hb3⟩; have hBl := hB1.trans (hb3.mono hB1.size); obtain ⟨c0, c1, c2, c3, c4, c5, c6, c7, c8, c9, c10, c11, c12, c13⟩ := (hE1.below hb3).at; simp only at c0 c1 c2 c3 c4 c5 c6 c7 c8 c9 c10 c11 c12 c13) | (go_at_call 12; refine (hI _ hBl).mono ?_; rintro e w5 ⟨rfl, hb5⟩))
  rw [rounds_succ]
  go_wp2_with (first | (go_at_call 18; refine HP.out.mono ?_; rintro e w1 ⟨rfl, rfl⟩) | (go_at_call 24; refine (hT _ hB1).mono ?_; rintro e w3 ⟨rfl, hb3⟩; have hBl := hB1.trans (hb3.mono hB1.size); obtain ⟨c0, c1, c2, c3, c4, c5, c6, c7, c8, c9, c10, c11, c12, c13⟩ := (hE1.below hb3).at; simp only at c0 c1 c2 c3 c4 c5 c6 c7 c8 c9 c10 c11 c12 c13) | (go_at_call 12; refine (hI _ hBl).mono ?_; rintro e w5 ⟨rfl, hb5⟩))
  go_ret
  exact ⟨rfl, hBl.trans (hb5.mono hBl.size)⟩
set_option maxRecDepth 100000 in
set_option maxHeartbeats 8000000 in
theorem ptx_from (e : En) (w : World) (s : Nat → Addr) (hk : e.1 = kOut ∨ e.1 = kLess) (hok : PieceOk .frm e) (hs : Es w s) (hp : Pow w) :
    Calls Tryd.prog 14 #[agE e] w fun r w' => r = .returned (.string (arr (entB e))) ∧ Below w.heap.size w w' := by
  have hB : Below w.heap.size w (w.alloc (celE e)) := (Below.refl _ w).alloc (Nat.le_refl _) _
  have hE := BlkE.new w e
  have hPl := places_from e.1 w.heap.size (w.alloc (celE e)) hk hE.at.c0
  have HT := text_from (e := e) (by rcases hk with hk | hk <;> rw [hk] <;> rfl)
  have bk := hok.k
  have bl8 := hok.li
  have bd := decB_size hok.n2
  have hI := fun w1 (hb : Below w.heap.size w w1) => itoa_any e.2.2.2.2.2 (by have := hok.n1; omega) (by have := hok.n2; omega) w1 (hp.below hb)
  have bf := ptext_short (hok.fr rfl)
  have hF := fun w1 (hb : Below w.heap.size w w1) => ptext_any e.2.2.2.1 w1 s (by have := name_short (okP_bounds (okP_of (hok.fr rfl))).1; unfold maxLen; omega) (hs.three.two.below hb) (hp.below hb)
  rw [← HT]
  clear HT hok hs hp
  obtain ⟨k, ⟨gc, gp⟩, ⟨li, lc, lu, lk⟩, ⟨fz, fr, fb⟩, ⟨tz, tr, tb⟩, n⟩ := e
  unfold agE celE decB bl at *
  unfold agP at *
  simp only at *
  clear hk
  have e1 : (⟨#[32]⟩ : ByteArray).size = 1 := rfl
  generalize (⟨(decDigits n.toNat).toArray⟩ : ByteArray) = td at *
  generalize ptext (fz, fr, fb) = tf at *
  have s1 : (k ++ (⟨#[32]⟩ : ByteArray)).size ≤ 6 := by rw [ByteArray.size_append, e1]; omega
  have s2 : ((k ++ (⟨#[32]⟩ : ByteArray)) ++ li).size ≤ 14 := by rw [ByteArray.size_append]; omega
  have s3 : ((⟨#[32]⟩ : ByteArray) ++ tf).size ≤ 37 := by rw [ByteArray.size_append, e1]; omega
  have s4 : (((k ++ (⟨#[32]⟩ : ByteArray)) ++ li) ++ ((⟨#[32]⟩ : ByteArray) ++ tf)).size ≤ 51 := by rw [ByteArray.size_append]; omega
  have s5 : ((((k ++ (⟨#[32]⟩ : ByteArray)) ++ li) ++ ((⟨#[32]⟩ : ByteArray) ++ tf)) ++ (⟨#[32]⟩ : ByteArray)).size ≤ 52 := by rw [ByteArray.size_append, e1]; omega
  have hB01 : Below (w.alloc (.cells #[.string k, .string gc, .int .i64 gp, .string li, .string lc, .int .i64 lu, .int .i64 lk, .string fz, .int .i64 fr, .int .i64 fb, .string tz, .int .i64 tr, .int .i64 tb, .int .i64 n] 29)).heap.size (w.alloc (.cells #[.string k, .string gc, .int .i64 gp, .string li, .string lc, .int .i64 lu, .int .i64 lk, .string fz, .int .i64 fr, .int .i64 fb, .string tz, .int .i64 tr, .int .i64 tb, .int .i64 n] 29)) ((w.alloc (.cells #[.string k, .string gc, .int .i64 gp, .string li, .string lc, .int .i64 lu, .int .i64 lk, .string fz, .int .i64 fr, .int .i64 fb, .string tz, .int .i64 tr, .int .i64 tb, .int .i64 n] 29)).alloc (.cells #[.pointer (some ⟨w.heap.size, 7, none⟩)] 48)) := (Below.refl _ _).alloc (Nat.le_refl _) _
  have hE1 := hE.below hB01
  have hB1 : Below w.heap.size w ((w.alloc (.cells #[.string k, .string gc, .int .i64 gp, .string li, .string lc, .int .i64 lu, .int .i64 lk, .string fz, .int .i64 fr, .int .i64 fb, .string tz, .int .i64 tr, .int .i64 tb, .int .i64 n] 29)).alloc (.cells #[.pointer (some ⟨w.heap.size, 7, none⟩)] 48)) := hB.trans (hB01.mono hB.size)
  obtain ⟨a0, a1, a2, a3, a4, a5, a6, a7, a8, a9, a10, a11, a12, a13⟩ := hE1.at
  simp only at a0 a1 a2 a3 a4 a5 a6 a7 a8 a9 a10 a11 a12 a13
  have HP : Hid (Calls Tryd.prog 18 _ _ _) := hPl
  clear hPl hE hB hB01
  go_enter Tryd.func14, Tryd.ntmps14
  go_wp2_with (first | (go_at_call 18; refine HP.out.mono ?_; rintro e w1 ⟨rfl, rfl⟩) | (go_at_call 24; refine (hF _ hB1).mono ?_; rintro e w3 ⟨rfl, hb3⟩; have hBl := hB1.trans (hb3.mono hB1.size); obtain ⟨c0, c1, c2, c3, c4, c5, c6, c7, c8, c9, c10, c11, c12, c13⟩ := (hE1.below hb3).at; simp only at c0 c1 c2 c3 c4 c5 c6 c7 c8 c9 c10 c11 c12 c13) | (go_at_call 12; refine (hI _ hBl).mono ?_; rintro e w5 ⟨rfl, hb5⟩))
  refine wp_loop_rounds 2 ?_
  rw [rounds_succ]
  go_wp2_with (first | (go_at_call 18; refine HP.out.mono ?_; rintro e w1 ⟨rfl, rfl⟩) | (go_at_call 24; refine (hF _ hB1).mono ?_; rintro e w3 ⟨rfl, hb3⟩; have hBl := hB1.trans (hb3.mono hB1.size); obtain ⟨c0, c1, c2, c3, c4, c5, c6, c7, c8, c9, c10, c11, c12, c13⟩ := (hE1.below hb3).at; simp only at c0 c1 c2 c3 c4 c5 c6 c7 c8 c9 c10 c11 c12 c13) | (go_at_call 12; refine (hI _ hBl).mono ?_; rintro e w5 ⟨rfl, hb5⟩))
  rw [rounds_succ]
  go_wp2_with (first | (go_at_call 18; refine HP.out.mono ?_; rintro e w1 ⟨rfl, rfl⟩) | (go_at_call 24; refine (hF _ hB1).mono ?_; rintro e w3 ⟨rfl, hb3⟩; have hBl := hB1.trans (hb3.mono hB1.size); obtain ⟨c0, c1, c2, c3, c4, c5, c6, c7, c8, c9, c10, c11, c12, c13⟩ := (hE1.below hb3).at; simp only at c0 c1 c2 c3 c4 c5 c6 c7 c8 c9 c10 c11 c12 c13) | (go_at_call 12; refine (hI _ hBl).mono ?_; rintro e w5 ⟨rfl, hb5⟩))
  go_ret
  exact ⟨rfl, hBl.trans (hb5.mono hBl.size)⟩
set_option maxRecDepth 100000 in
set_option maxHeartbeats 8000000 in
theorem ptx_hold (e : En) (w : World) (hk : e.1 = kHold ∨ e.1 = kFree) (hok : PieceOk .hold e) (hp : Pow w) :
    Calls Tryd.prog 14 #[agE e] w fun r w' => r = .returned (.string (arr (entB e))) ∧ Below w.heap.size w w' := by
  have hB : Below w.heap.size w (w.alloc (celE e)) := (Below.refl _ w).alloc (Nat.le_refl _) _
  have hE := BlkE.new w e
  have hPl := places_hold e.1 w.heap.size (w.alloc (celE e)) hk hE.at.c0
  have HT := text_hold (e := e) (by rcases hk with hk | hk <;> rw [hk] <;> rfl)
  have bk := hok.k
  have bl8 := hok.li
  have bd := decB_size hok.n2
  have hI := fun w1 (hb : Below w.heap.size w w1) => itoa_any e.2.2.2.2.2 (by have := hok.n1; omega) (by have := hok.n2; omega) w1 (hp.below hb)
  rw [← HT]
  clear HT hok hp
  obtain ⟨k, ⟨gc, gp⟩, ⟨li, lc, lu, lk⟩, ⟨fz, fr, fb⟩, ⟨tz, tr, tb⟩, n⟩ := e
  unfold agE celE decB bl at *
  simp only at *
  clear hk
  have e1 : (⟨#[32]⟩ : ByteArray).size = 1 := rfl
  generalize (⟨(decDigits n.toNat).toArray⟩ : ByteArray) = td at *
  have s1 : (k ++ (⟨#[32]⟩ : ByteArray)).size ≤ 6 := by rw [ByteArray.size_append, e1]; omega
  have s2 : ((k ++ (⟨#[32]⟩ : ByteArray)) ++ li).size ≤ 14 := by rw [ByteArray.size_append]; omega
  have s3 : (((k ++ (⟨#[32]⟩ : ByteArray)) ++ li) ++ (⟨#[32]⟩ : ByteArray)).size ≤ 15 := by rw [ByteArray.size_append, e1]; omega
  have hB01 : Below (w.alloc (.cells #[.string k, .string gc, .int .i64 gp, .string li, .string lc, .int .i64 lu, .int .i64 lk, .string fz, .int .i64 fr, .int .i64 fb, .string tz, .int .i64 tr, .int .i64 tb, .int .i64 n] 29)).heap.size (w.alloc (.cells #[.string k, .string gc, .int .i64 gp, .string li, .string lc, .int .i64 lu, .int .i64 lk, .string fz, .int .i64 fr, .int .i64 fb, .string tz, .int .i64 tr, .int .i64 tb, .int .i64 n] 29)) (w.alloc (.cells #[.string k, .string gc, .int .i64 gp, .string li, .string lc, .int .i64 lu, .int .i64 lk, .string fz, .int .i64 fr, .int .i64 fb, .string tz, .int .i64 tr, .int .i64 tb, .int .i64 n] 29)) := Below.refl _ _
  have hE1 := hE.below hB01
  have hB1 : Below w.heap.size w (w.alloc (.cells #[.string k, .string gc, .int .i64 gp, .string li, .string lc, .int .i64 lu, .int .i64 lk, .string fz, .int .i64 fr, .int .i64 fb, .string tz, .int .i64 tr, .int .i64 tb, .int .i64 n] 29)) := hB.trans (hB01.mono hB.size)
  obtain ⟨a0, a1, a2, a3, a4, a5, a6, a7, a8, a9, a10, a11, a12, a13⟩ := hE1.at
  simp only at a0 a1 a2 a3 a4 a5 a6 a7 a8 a9 a10 a11 a12 a13
  have HP : Hid (Calls Tryd.prog 18 _ _ _) := hPl
  clear hPl hE hB hB01
  go_enter Tryd.func14, Tryd.ntmps14
  go_wp2_with (first | (go_at_call 18; refine HP.out.mono ?_; rintro e w1 ⟨rfl, rfl⟩) | (go_at_call 12; refine (hI _ hB1).mono ?_; rintro e w5 ⟨rfl, hb5⟩))
  refine wp_loop_rounds 1 ?_
  rw [rounds_succ]
  go_wp2_with (first | (go_at_call 18; refine HP.out.mono ?_; rintro e w1 ⟨rfl, rfl⟩) | (go_at_call 12; refine (hI _ hB1).mono ?_; rintro e w5 ⟨rfl, hb5⟩))
  go_ret
  exact ⟨rfl, hB1.trans (hb5.mono hB1.size)⟩
end Go.Proofs.YtcipbkaopnaiiacDoor
namespace Go.Proofs.YtcipbkaopnaiiacDoor
open Go.RowKit Go.Lib Go.Sort

set_option maxRecDepth 100000 in
set_option maxHeartbeats 8000000 in
theorem ptx_move (e : En) (w : World) (s : Nat → Addr) (hk : e.1 = kMove) (hok : PieceOk .move e) (hs : Es w s) (hp : Pow w) :
    Calls Tryd.prog 14 #[agE e] w fun r w' => r = .returned (.string (arr (entB e))) ∧ Below w.heap.size w w' := by
  have hB : Below w.heap.size w (w.alloc (celE e)) := (Below.refl _ w).alloc (Nat.le_refl _) _
  have hE := BlkE.new w e
  have hPl := places_move w.heap.size (w.alloc (celE e)) (by rw [← hk]; exact hE.at.c0)
  have HT := text_move (e := e) (by rw [hk]; rfl)
  have bk := hok.k
  have bl8 := hok.li
  have bd := decB_size hok.n2
  have hI := fun w1 (hb : Below w.heap.size w w1) => itoa_any e.2.2.2.2.2 (by have := hok.n1; omega) (by have := hok.n2; omega) w1 (hp.below hb)
  have bf := ptext_short (hok.fr rfl)
  have hF := fun w1 (hb : Below w.heap.size w w1) => ptext_any e.2.2.2.1 w1 s (by have := name_short (okP_bounds (okP_of (hok.fr rfl))).1; unfold maxLen; omega) (hs.three.two.below hb) (hp.below hb)
  have bt := ptext_short (hok.tow rfl)
  have hT := fun w1 (hb : Below w.heap.size w w1) => ptext_any e.2.2.2.2.1 w1 s (by have := name_short (okP_bounds (okP_of (hok.tow rfl))).1; unfold maxLen; omega) (hs.three.two.below hb) (hp.below hb)
  rw [← HT]
  clear HT hok hs hp
  obtain ⟨k, ⟨gc, gp⟩, ⟨li, lc, lu, lk⟩, ⟨fz, fr, fb⟩, ⟨tz, tr, tb⟩, n⟩ := e
  unfold agE celE decB bl at *
  unfold agP at *
  simp only at *
  subst hk
  have e1 : (⟨#[32]⟩ : ByteArray).size = 1 := rfl
  generalize (⟨(decDigits n.toNat).toArray⟩ : ByteArray) = td at *
  generalize ptext (fz, fr, fb) = tf at *
  generalize ptext (tz, tr, tb) = tt at *
  have s1 : (kMove ++ (⟨#[32]⟩ : ByteArray)).size ≤ 6 := by rw [ByteArray.size_append, e1]; omega
  have s2 : ((kMove ++ (⟨#[32]⟩ : ByteArray)) ++ li).size ≤ 14 := by rw [ByteArray.size_append]; omega
  have s3 : ((⟨#[32]⟩ : ByteArray) ++ tf).size ≤ 37 := by rw [ByteArray.size_append, e1]; omega
  have s4 : (((kMove ++ (⟨#[32]⟩ : ByteArray)) ++ li) ++ ((⟨#[32]⟩ : ByteArray) ++ tf)).size ≤ 51 := by rw [ByteArray.size_append]; omega
  have s5 : ((⟨#[32]⟩ : ByteArray) ++ tt).size ≤ 37 := by rw [ByteArray.size_append, e1]; omega
  have s6 : ((((kMove ++ (⟨#[32]⟩ : ByteArray)) ++ li) ++ ((⟨#[32]⟩ : ByteArray) ++ tf)) ++ ((⟨#[32]⟩ : ByteArray) ++ tt)).size ≤ 88 := by rw [ByteArray.size_append]; omega
  have s7 : (((((kMove ++ (⟨#[32]⟩ : ByteArray)) ++ li) ++ ((⟨#[32]⟩ : ByteArray) ++ tf)) ++ ((⟨#[32]⟩ : ByteArray) ++ tt)) ++ (⟨#[32]⟩ : ByteArray)).size ≤ 89 := by rw [ByteArray.size_append, e1]; omega
  have hB01 : Below (w.alloc (.cells #[.string kMove, .string gc, .int .i64 gp, .string li, .string lc, .int .i64 lu, .int .i64 lk, .string fz, .int .i64 fr, .int .i64 fb, .string tz, .int .i64 tr, .int .i64 tb, .int .i64 n] 29)).heap.size (w.alloc (.cells #[.string kMove, .string gc, .int .i64 gp, .string li, .string lc, .int .i64 lu, .int .i64 lk, .string fz, .int .i64 fr, .int .i64 fb, .string tz, .int .i64 tr, .int .i64 tb, .int .i64 n] 29)) ((w.alloc (.cells #[.string kMove, .string gc, .int .i64 gp, .string li, .string lc, .int .i64 lu, .int .i64 lk, .string fz, .int .i64 fr, .int .i64 fb, .string tz, .int .i64 tr, .int .i64 tb, .int .i64 n] 29)).alloc (.cells #[.pointer (some ⟨w.heap.size, 7, none⟩), .pointer (some ⟨w.heap.size, 10, none⟩)] 48)).drew := ((Below.refl _ _).alloc (Nat.le_refl _) _).drew
  have hE1 := hE.below hB01
  have hB1 : Below w.heap.size w ((w.alloc (.cells #[.string kMove, .string gc, .int .i64 gp, .string li, .string lc, .int .i64 lu, .int .i64 lk, .string fz, .int .i64 fr, .int .i64 fb, .string tz, .int .i64 tr, .int .i64 tb, .int .i64 n] 29)).alloc (.cells #[.pointer (some ⟨w.heap.size, 7, none⟩), .pointer (some ⟨w.heap.size, 10, none⟩)] 48)).drew := hB.trans (hB01.mono hB.size)
  have hp1 : ((w.alloc (.cells #[.string kMove, .string gc, .int .i64 gp, .string li, .string lc, .int .i64 lu, .int .i64 lk, .string fz, .int .i64 fr, .int .i64 fb, .string tz, .int .i64 tr, .int .i64 tb, .int .i64 n] 29)).alloc (.cells #[.pointer (some ⟨w.heap.size, 7, none⟩), .pointer (some ⟨w.heap.size, 10, none⟩)] 48)).drew.cell? ⟨w.heap.size + 1, 1, none⟩ = some (.pointer (some ⟨w.heap.size, 10, none⟩)) := by simp
  obtain ⟨a0, a1, a2, a3, a4, a5, a6, a7, a8, a9, a10, a11, a12, a13⟩ := hE1.at
  simp only at a0 a1 a2 a3 a4 a5 a6 a7 a8 a9 a10 a11 a12 a13
  have HP : Hid (Calls Tryd.prog 18 _ _ _) := hPl
  clear hPl hE hB hB01
  go_enter Tryd.func14, Tryd.ntmps14
  go_wp2_with (first | (go_at_call 18; refine HP.out.mono ?_; rintro e w1 ⟨rfl, rfl⟩) | (go_at_call_of 24 (Value.agg #[.string fz, .int .i64 fr, .int .i64 fb]); refine (hF _ hB1).mono ?_; rintro e w3 ⟨rfl, hb3⟩; have hBl := hB1.trans (hb3.mono hB1.size); obtain ⟨c0, c1, c2, c3, c4, c5, c6, c7, c8, c9, c10, c11, c12, c13⟩ := (hE1.below hb3).at; simp only at c0 c1 c2 c3 c4 c5 c6 c7 c8 c9 c10 c11 c12 c13; have hp3 : w3.cell? ⟨w.heap.size + 1, 1, none⟩ = some (.pointer (some ⟨w.heap.size, 10, none⟩)) := (hb3.cell (p := ⟨w.heap.size + 1, 1, none⟩) (by simp)).trans hp1) | (go_at_call_of 24 (Value.agg #[.string tz, .int .i64 tr, .int .i64 tb]); refine (hT _ hBl).mono ?_; rintro e w4 ⟨rfl, hb4⟩; have hBl4 := hBl.trans (hb4.mono hBl.size); obtain ⟨d0, d1, d2, d3, d4, d5, d6, d7, d8, d9, d10, d11, d12, d13⟩ := ((hE1.below hb3).below hb4).at; simp only at d0 d1 d2 d3 d4 d5 d6 d7 d8 d9 d10 d11 d12 d13) | (go_at_call 12; refine (hI _ hBl4).mono ?_; rintro e w5 ⟨rfl, hb5⟩))
  refine wp_loop_rounds 3 ?_
  rw [rounds_succ]
  go_wp2_with (first | (go_at_call 18; refine HP.out.mono ?_; rintro e w1 ⟨rfl, rfl⟩) | (go_at_call_of 24 (Value.agg #[.string fz, .int .i64 fr, .int .i64 fb]); refine (hF _ hB1).mono ?_; rintro e w3 ⟨rfl, hb3⟩; have hBl := hB1.trans (hb3.mono hB1.size); obtain ⟨c0, c1, c2, c3, c4, c5, c6, c7, c8, c9, c10, c11, c12, c13⟩ := (hE1.below hb3).at; simp only at c0 c1 c2 c3 c4 c5 c6 c7 c8 c9 c10 c11 c12 c13; have hp3 : w3.cell? ⟨w.heap.size + 1, 1, none⟩ = some (.pointer (some ⟨w.heap.size, 10, none⟩)) := (hb3.cell (p := ⟨w.heap.size + 1, 1, none⟩) (by simp)).trans hp1) | (go_at_call_of 24 (Value.agg #[.string tz, .int .i64 tr, .int .i64 tb]); refine (hT _ hBl).mono ?_; rintro e w4 ⟨rfl, hb4⟩; have hBl4 := hBl.trans (hb4.mono hBl.size); obtain ⟨d0, d1, d2, d3, d4, d5, d6, d7, d8, d9, d10, d11, d12, d13⟩ := ((hE1.below hb3).below hb4).at; simp only at d0 d1 d2 d3 d4 d5 d6 d7 d8 d9 d10 d11 d12 d13) | (go_at_call 12; refine (hI _ hBl4).mono ?_; rintro e w5 ⟨rfl, hb5⟩))
  rw [rounds_succ]
  go_wp2_with (first | (go_at_call 18; refine HP.out.mono ?_; rintro e w1 ⟨rfl, rfl⟩) | (go_at_call_of 24 (Value.agg #[.string fz, .int .i64 fr, .int .i64 fb]); refine (hF _ hB1).mono ?_; rintro e w3 ⟨rfl, hb3⟩; have hBl := hB1.trans (hb3.mono hB1.size); obtain ⟨c0, c1, c2, c3, c4, c5, c6, c7, c8, c9, c10, c11, c12, c13⟩ := (hE1.below hb3).at; simp only at c0 c1 c2 c3 c4 c5 c6 c7 c8 c9 c10 c11 c12 c13; have hp3 : w3.cell? ⟨w.heap.size + 1, 1, none⟩ = some (.pointer (some ⟨w.heap.size, 10, none⟩)) := (hb3.cell (p := ⟨w.heap.size + 1, 1, none⟩) (by simp)).trans hp1) | (go_at_call_of 24 (Value.agg #[.string tz, .int .i64 tr, .int .i64 tb]); refine (hT _ hBl).mono ?_; rintro e w4 ⟨rfl, hb4⟩; have hBl4 := hBl.trans (hb4.mono hBl.size); obtain ⟨d0, d1, d2, d3, d4, d5, d6, d7, d8, d9, d10, d11, d12, d13⟩ := ((hE1.below hb3).below hb4).at; simp only at d0 d1 d2 d3 d4 d5 d6 d7 d8 d9 d10 d11 d12 d13) | (go_at_call 12; refine (hI _ hBl4).mono ?_; rintro e w5 ⟨rfl, hb5⟩))
  rw [rounds_succ]
  go_wp2_with (first | (go_at_call 18; refine HP.out.mono ?_; rintro e w1 ⟨rfl, rfl⟩) | (go_at_call_of 24 (Value.agg #[.string fz, .int .i64 fr, .int .i64 fb]); refine (hF _ hB1).mono ?_; rintro e w3 ⟨rfl, hb3⟩; have hBl := hB1.trans (hb3.mono hB1.size); obtain ⟨c0, c1, c2, c3, c4, c5, c6, c7, c8, c9, c10, c11, c12, c13⟩ := (hE1.below hb3).at; simp only at c0 c1 c2 c3 c4 c5 c6 c7 c8 c9 c10 c11 c12 c13; have hp3 : w3.cell? ⟨w.heap.size + 1, 1, none⟩ = some (.pointer (some ⟨w.heap.size, 10, none⟩)) := (hb3.cell (p := ⟨w.heap.size + 1, 1, none⟩) (by simp)).trans hp1) | (go_at_call_of 24 (Value.agg #[.string tz, .int .i64 tr, .int .i64 tb]); refine (hT _ hBl).mono ?_; rintro e w4 ⟨rfl, hb4⟩; have hBl4 := hBl.trans (hb4.mono hBl.size); obtain ⟨d0, d1, d2, d3, d4, d5, d6, d7, d8, d9, d10, d11, d12, d13⟩ := ((hE1.below hb3).below hb4).at; simp only at d0 d1 d2 d3 d4 d5 d6 d7 d8 d9 d10 d11 d12 d13) | (go_at_call 12; refine (hI _ hBl4).mono ?_; rintro e w5 ⟨rfl, hb5⟩))
  go_ret
  exact ⟨rfl, hBl4.trans (hb5.mono hBl4.size)⟩
end Go.Proofs.YtcipbkaopnaiiacDoor
namespace Go.Proofs.YtcipbkaopnaiiacDoor
open Go.RowKit Go.Lib Go.Sort

/-- piecesText of an entry of pieces that is well. -/
theorem ptx_any (e : En) (w : World) (s : Nat → Addr) (hs : Es w s) (hp : Pow w) (h0 : ownErr e = 0) (h1 : e.1 ≠ kGoods) (h2 : e.1 ≠ kLot) :
    Calls Tryd.prog 14 #[agE e] w fun r w' => r = .returned (.string (arr (entB e))) ∧ Below w.heap.size w w' := by
  rcases kind_cases e.1 with h | h | h | h | h | h | h
  · exact absurd h h1
  · exact absurd h h2
  · rw [ownErr_to h] at h0; exact ptx_to e w s h (piece_ok h0 (kd_some (by rcases h with h | h <;> rw [h] <;> decide))) hs hp
  · rw [ownErr_from h] at h0; exact ptx_from e w s h (piece_ok h0 (kd_some (by rcases h with h | h <;> rw [h] <;> decide))) hs hp
  · rw [ownErr_move h] at h0; exact ptx_move e w s h (piece_ok h0 (kd_some (by rw [h]; decide))) hs hp
  · rw [ownErr_hold h] at h0; exact ptx_hold e w h (piece_ok h0 (kd_some (by rcases h with h | h <;> rw [h] <;> decide))) hp
  · rw [ownErr_other h] at h0; omega
set_option maxRecDepth 100000 in
set_option maxHeartbeats 8000000 in
theorem etext_out (e : En) (w : World) (s : Nat → Addr) (hz : SzE e) (hs : Es w s) (h : entErr e ≠ 0) :
    Calls Tryd.prog 8 #[agE e] w fun r w' => r = .returned (.string ⟨#[]⟩) ∧ Below w.heap.size w w' := by
  have hB : Below w.heap.size w (w.alloc (celE e)) := (Below.refl _ w).alloc (Nat.le_refl _) _
  have hE := BlkE.new w e
  have hC := echeck_any e (w.alloc (celE e)) s hz (hs.below hB)
  rw [errP_pos s h] at hC
  clear hz hs h
  generalize s (entErr e - 1) = ad at *
  obtain ⟨k, ⟨gc, gp⟩, ⟨li, lc, lu, lk⟩, ⟨fz, fr, fb⟩, ⟨tz, tr, tb⟩, n⟩ := e
  unfold agE celE at *
  simp only at *
  have HC : Hid (Calls Tryd.prog 6 _ _ _) := hC
  clear hC hE
  go_enter Tryd.func8, Tryd.ntmps8
  go_wp2_with (go_at_call 6; refine HC.out.mono ?_; rintro e w1 ⟨rfl, hb⟩)
  go_ret
  exact ⟨rfl, hB.trans (hb.mono hB.size)⟩
set_option maxRecDepth 100000 in
set_option maxHeartbeats 8000000 in
theorem etext_pieces (e : En) (w : World) (s : Nat → Addr) (hz : SzE e) (hs : Es w s) (hp : Pow w) (h : entErr e = 0) (h1 : e.1 ≠ kGoods) (h2 : e.1 ≠ kLot) :
    Calls Tryd.prog 8 #[agE e] w fun r w' => r = .returned (.string (arr (entB e))) ∧ Below w.heap.size w w' := by
  have hB : Below w.heap.size w (w.alloc (celE e)) := (Below.refl _ w).alloc (Nat.le_refl _) _
  have hE := BlkE.new w e
  have hC := echeck_any e (w.alloc (celE e)) s hz (hs.below hB)
  rw [h, errP_zero] at hC
  have hP := fun w1 (hb : Below w.heap.size w w1) => ptx_any e w1 s (hs.below hb) (hp.below hb) (entErr_own h).1 h1 h2
  have e1 := other_word h1
  have e2 := other_word h2
  generalize arr (entB e) = tx at *
  clear hz hs hp h h1 h2
  obtain ⟨k, ⟨gc, gp⟩, ⟨li, lc, lu, lk⟩, ⟨fz, fr, fb⟩, ⟨tz, tr, tb⟩, n⟩ := e
  unfold agE celE at *
  simp only at *
  have HC : Hid (Calls Tryd.prog 6 _ _ _) := hC
  have HE : Hid (BlkE _ _ _) := hE
  clear hC hE
  go_enter Tryd.func8, Tryd.ntmps8
  go_wp2_with (first
    | (go_at_call 6; refine HC.out.mono ?_; rintro e w1 ⟨rfl, hb⟩; have hb1 := hB.trans (hb.mono hB.size); obtain ⟨c0, c1, c2, c3, c4, c5, c6, c7, c8, c9, c10, c11, c12, c13⟩ := (HE.out.below hb).at; simp only at c0 c1 c2 c3 c4 c5 c6 c7 c8 c9 c10 c11 c12 c13)
    | (go_at_call 14; refine (hP _ hb1).mono ?_; rintro e w2 ⟨rfl, hb2⟩))
  go_ret
  exact ⟨rfl, hb1.trans (hb2.mono hb1.size)⟩
theorem joinsG (k a d : ByteArray) (hk : k.size ≤ 5) (ha : a.size ≤ 8) (hd : d.size ≤ 13) : ∃ t1 t2 t3 : ByteArray,
    (∀ w, (Op.stringOp .add k ⟨#[32]⟩).run Tryd.prog w = .ok (.string t1) w) ∧ (∀ w, (Op.stringOp .add t1 a).run Tryd.prog w = .ok (.string t2) w) ∧ (∀ w, (Op.stringOp .add t2 ⟨#[32]⟩).run Tryd.prog w = .ok (.string t3) w) ∧
    (∀ w, (Op.stringOp .add t3 d).run Tryd.prog w = .ok (.string ((((k ++ ⟨#[32]⟩) ++ a) ++ ⟨#[32]⟩) ++ d)) w) := by
  have e : (⟨#[32]⟩ : ByteArray).size = 1 := rfl
  refine ⟨_, _, _, fun w => run_string_add_sum w _ _ ?_, fun w => run_string_add_sum w _ _ ?_, fun w => run_string_add_sum w _ _ ?_, fun w => run_string_add_sum w _ _ ?_⟩
  all_goals
    simp only [ByteArray.size_append, e]
    omega
theorem joinsL (k d : ByteArray) (hk : k.size ≤ 5) (hd : d.size ≤ 45) : ∃ t1 : ByteArray,
    (∀ w, (Op.stringOp .add k ⟨#[32]⟩).run Tryd.prog w = .ok (.string t1) w) ∧ (∀ w, (Op.stringOp .add t1 d).run Tryd.prog w = .ok (.string ((k ++ ⟨#[32]⟩) ++ d)) w) := by
  have e : (⟨#[32]⟩ : ByteArray).size = 1 := rfl
  refine ⟨_, fun w => run_string_add_sum w _ _ ?_, fun w => run_string_add_sum w _ _ ?_⟩
  all_goals
    simp only [ByteArray.size_append, e]
    omega
theorem gdErr_ok {g : Gd} (h : gdErr g = 0) : isName g.1.data.toList = true ∧ 1 ≤ g.2 ∧ g.2 ≤ 1000 := by
  unfold gdErr at h
  by_cases h1 : isName g.1.data.toList = true
  · rw [if_pos h1] at h
    by_cases h2 : pw g.2 = true
    · have : 1 ≤ g.2 ∧ g.2 ≤ 1000 := by unfold pw at h2; simpa using h2
      exact ⟨h1, this⟩
    · rw [if_neg h2] at h; omega
  · rw [if_neg h1] at h; omega
set_option maxRecDepth 100000 in
set_option maxHeartbeats 8000000 in
theorem etext_goods (e : En) (w : World) (s : Nat → Addr) (hz : SzE e) (hs : Es w s) (hp : Pow w) (h : entErr e = 0) (hk : e.1 = kGoods) :
    Calls Tryd.prog 8 #[agE e] w fun r w' => r = .returned (.string (arr (entB e))) ∧ Below w.heap.size w w' := by
  have hB : Below w.heap.size w (w.alloc (celE e)) := (Below.refl _ w).alloc (Nat.le_refl _) _
  have hE := BlkE.new w e
  have hC := echeck_any e (w.alloc (celE e)) s hz (hs.below hB)
  rw [h, errP_zero] at hC
  have h0 := (entErr_own h).1
  rw [ownErr_goods hk] at h0
  obtain ⟨hn, n1, n2⟩ := gdErr_ok h0
  have hI := fun w1 (hb : Below w.heap.size w w1) => itoa_any e.2.1.2 (by omega) (by omega) w1 (hp.below hb)
  obtain ⟨t1, t2, t3, s1, s2, s3, s4⟩ := joinsG e.1 e.2.1.1 (decB e.2.1.2) (by rw [hk]; decide) (name_short hn) (decB_size (by omega))
  have HX : Hid ((((e.1 ++ ⟨#[32]⟩) ++ e.2.1.1) ++ ⟨#[32]⟩) ++ decB e.2.1.2 = arr (entB e)) := text_goods hk
  rw [HX.out] at s4
  generalize arr (entB e) = tx at *
  clear hz hs hp h h0 hn n1 n2 HX
  unfold decB at *
  obtain ⟨k, ⟨gc, gp⟩, ⟨li, lc, lu, lk⟩, ⟨fz, fr, fb⟩, ⟨tz, tr, tb⟩, n⟩ := e
  simp only at hk
  subst hk
  unfold agE celE at *
  simp only at *
  generalize (⟨(decDigits gp.toNat).toArray⟩ : ByteArray) = td at *
  have HC : Hid (Calls Tryd.prog 6 _ _ _) := hC
  have HE : Hid (BlkE _ _ _) := hE
  clear hC hE
  go_enter Tryd.func8, Tryd.ntmps8
  go_wp2_with (first | (go_at_call 6; refine HC.out.mono ?_; rintro e w1 ⟨rfl, hb⟩; have hb1 := hB.trans (hb.mono hB.size); obtain ⟨c0, c1, c2, c3, c4, c5, c6, c7, c8, c9, c10, c11, c12, c13⟩ := (HE.out.below hb).at; simp only at c0 c1 c2 c3 c4 c5 c6 c7 c8 c9 c10 c11 c12 c13))
  have hbR : ∀ d os, Below w.heap.size w (grow (redrawn w1 d) os) := fun d os => hb1.trans ((below_regrown w1 d os).mono hb1.size)
  have k0 := cell_regrown c0
  have k1 := cell_regrown c1
  have k2 := cell_regrown c2
  have k3 := cell_regrown c3
  have k4 := cell_regrown c4
  have k5 := cell_regrown c5
  have k6 := cell_regrown c6
  have k7 := cell_regrown c7
  have k8 := cell_regrown c8
  have k9 := cell_regrown c9
  have k10 := cell_regrown c10
  have k11 := cell_regrown c11
  have k12 := cell_regrown c12
  have k13 := cell_regrown c13
  have cI := fun d os => Calls.regrown_of (w := w1) (hI _ (hbR d os))
  clear c0 c1 c2 c3 c4 c5 c6 c7 c8 c9 c10 c11 c12 c13 HE HC hI hb hb1
  refine wp_region_quiet_below (by kernel_rfl) (by kernel_rfl) ?_
  repeat (quiet_step ((go_at_call 12; exact cI _ _)))
  refine wpQuiet_nil ?_
  intro _ hw'
  obtain ⟨⟨dq, osq⟩, hw''⟩ := hw'
  subst hw''
  have hbE := hbR dq osq
  go_wp2
  go_ret
  exact ⟨rfl, hbE⟩
set_option maxRecDepth 100000 in
set_option maxHeartbeats 8000000 in
theorem etext_lot (e : En) (w : World) (s : Nat → Addr) (hz : SzE e) (hs : Es w s) (hp : Pow w) (h : entErr e = 0) (hk : e.1 = kLot) :
    Calls Tryd.prog 8 #[agE e] w fun r w' => r = .returned (.string (arr (entB e))) ∧ Below w.heap.size w w' := by
  have hB : Below w.heap.size w (w.alloc (celE e)) := (Below.refl _ w).alloc (Nat.le_refl _) _
  have hE := BlkE.new w e
  have hC := echeck_any e (w.alloc (celE e)) s hz (hs.below hB)
  rw [h, errP_zero] at hC
  have h0 := (entErr_own h).1
  rw [ownErr_lot hk] at h0
  have hI := fun w1 (hb : Below w.heap.size w w1) => ltext_any e.2.2.1 w1 s hz.li hz.lc (hs.three.two.below hb) (hp.below hb)
  obtain ⟨t1, s1, s2⟩ := joinsL e.1 (ltext e.2.2.1) (by rw [hk]; decide) (ltext_size h0)
  have HX : Hid ((e.1 ++ ⟨#[32]⟩) ++ ltext e.2.2.1 = arr (entB e)) := text_lot hk h0
  rw [HX.out] at s2
  generalize arr (entB e) = tx at *
  generalize ltext e.2.2.1 = td at *
  clear hz hs hp h h0 HX
  obtain ⟨k, ⟨gc, gp⟩, ⟨li, lc, lu, lk⟩, ⟨fz, fr, fb⟩, ⟨tz, tr, tb⟩, n⟩ := e
  simp only at hk
  subst hk
  unfold agE celE agL at *
  simp only at *
  have HC : Hid (Calls Tryd.prog 6 _ _ _) := hC
  have HE : Hid (BlkE _ _ _) := hE
  clear hC hE
  go_enter Tryd.func8, Tryd.ntmps8
  go_wp2_with (first | (go_at_call 6; refine HC.out.mono ?_; rintro e w1 ⟨rfl, hb⟩; have hb1 := hB.trans (hb.mono hB.size); obtain ⟨c0, c1, c2, c3, c4, c5, c6, c7, c8, c9, c10, c11, c12, c13⟩ := (HE.out.below hb).at; simp only at c0 c1 c2 c3 c4 c5 c6 c7 c8 c9 c10 c11 c12 c13))
  have hbR : ∀ d os, Below w.heap.size w (grow (redrawn w1 d) os) := fun d os => hb1.trans ((below_regrown w1 d os).mono hb1.size)
  have k0 := cell_regrown c0
  have k1 := cell_regrown c1
  have k2 := cell_regrown c2
  have k3 := cell_regrown c3
  have k4 := cell_regrown c4
  have k5 := cell_regrown c5
  have k6 := cell_regrown c6
  have k7 := cell_regrown c7
  have k8 := cell_regrown c8
  have k9 := cell_regrown c9
  have k10 := cell_regrown c10
  have k11 := cell_regrown c11
  have k12 := cell_regrown c12
  have k13 := cell_regrown c13
  have cI := fun d os => Calls.regrown_of (w := w1) (hI _ (hbR d os))
  clear c0 c1 c2 c3 c4 c5 c6 c7 c8 c9 c10 c11 c12 c13 HE HC hI hb hb1
  refine wp_region_quiet_below (by kernel_rfl) (by kernel_rfl) ?_
  repeat (quiet_step ((go_at_call 13; exact cI _ _)))
  refine wpQuiet_nil ?_
  intro _ hw'
  obtain ⟨⟨dq, osq⟩, hw''⟩ := hw'
  subst hw''
  have hbE := hbR dq osq
  go_wp2
  go_ret
  exact ⟨rfl, hbE⟩
/-- entry.Text. -/
theorem etext_any (e : En) (w : World) (s : Nat → Addr) (hz : SzE e) (hs : Es w s) (hp : Pow w) :
    Calls Tryd.prog 8 #[agE e] w fun r w' => r = .returned (.string (etext e)) ∧ Below w.heap.size w w' := by
  by_cases h : entErr e = 0
  · rw [etext_ok h]
    by_cases h1 : e.1 = kGoods
    · exact etext_goods e w s hz hs hp h h1
    · by_cases h2 : e.1 = kLot
      · exact etext_lot e w s hz hs hp h h2
      · exact etext_pieces e w s hz hs hp h h1 h2
  · rw [etext_no h]
    exact etext_out e w s hz hs h
end Go.Proofs.YtcipbkaopnaiiacDoor
