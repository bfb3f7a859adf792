/-
  What the reference's EntryText answers of an entry of pieces: an entry's text; over whatever world; nothing old is turned.
-/
import Derived.Test.YtgdhfipbbijngaaGreatDoorTErr
import Derived.Test.YtgdhfipbbijngaaGreatDoorETextM
import Derived.Test.YtgdhfipbbijngaaGreatDoorPRefText
namespace Go.Proofs.YtgdhfipbbijngaaGreatDoor
open Go.RowKit Go.Lib Go.Sort

theorem textR_to {e : En} (hk : kd e.1 = .tow) : (((((e.1 ++ bl) ++ e.2.2.1.1) ++ bl) ++ ptext e.2.2.2.2.1) ++ bl) ++ decB e.2.2.2.2.2 = arr (entB e) := by
  apply bytes_ext
  unfold entB decB pbytes
  rw [hk]
  simp only [append_bytes]
  simp
theorem textR_from {e : En} (hk : kd e.1 = .frm) : (((((e.1 ++ bl) ++ e.2.2.1.1) ++ bl) ++ ptext e.2.2.2.1) ++ bl) ++ decB e.2.2.2.2.2 = arr (entB e) := by
  apply bytes_ext
  unfold entB decB pbytes
  rw [hk]
  simp only [append_bytes]
  simp
theorem textR_move {e : En} (hk : kd e.1 = .move) : (((((((e.1 ++ bl) ++ e.2.2.1.1) ++ bl) ++ ptext e.2.2.2.1) ++ bl) ++ ptext e.2.2.2.2.1) ++ bl) ++ decB e.2.2.2.2.2 = arr (entB e) := by
  apply bytes_ext
  unfold entB decB pbytes
  rw [hk]
  simp only [append_bytes]
  simp
theorem textR_hold {e : En} (hk : kd e.1 = .hold) : (((e.1 ++ bl) ++ e.2.2.1.1) ++ bl) ++ decB e.2.2.2.2.2 = arr (entB e) := by
  apply bytes_ext
  unfold entB decB
  rw [hk]
  simp only [append_bytes]
  simp
set_option maxRecDepth 100000 in
set_option maxHeartbeats 8000000 in
theorem ttx_to (e : En) (w : World) (hz : SzE e) (hk : e.1 = kIn ∨ e.1 = kMore) (h : entErr e = 0) (hok : PieceOk .tow e) :
    Calls Tryz.prog 12 #[agE e] w fun r w' => r = .returned (.string (arr (entB e))) ∧ Below w.heap.size w w' := by
  have hB : Below w.heap.size w (w.alloc (celE e)) := (Below.refl _ w).alloc (Nat.le_refl _) _
  have hE := BlkE.new w e
  have hC := terr_any e (w.alloc (celE e)) hz
  rw [h] at hC
  have hd : kd e.1 = .tow := by rcases hk with hk | hk <;> rw [hk] <;> rfl
  have HT := textR_to (e := e) hd
  have hF := fun w => hasFrom_any e.1 w
  have hT := fun w => hasTo_any e.1 w
  rw [hd] at hF hT
  have hg : (e.1.toList == kGoods.data.toList) = false := other_word (by rcases hk with hk | hk <;> rw [hk] <;> decide)
  have hl : (e.1.toList == kLot.data.toList) = false := other_word (by rcases hk with hk | hk <;> rw [hk] <;> decide)
  have bk := hok.k
  have bl8 := hok.li
  have bd := decB_size hok.n2
  have hI := fun w1 => refDecimal e.2.2.2.2.2 (by have := hok.n1; omega) (by have := hok.n2; omega) w1
  have bt := ptext_short (hok.tow rfl)
  have hPt := fun w1 => placeText_in e.2.2.2.2.1 w1 hz.tz (okP_of (hok.tow rfl))
  rw [← HT]
  clear HT hok hz h hd hk
  unfold kFrom at hF
  unfold kTo at hT
  obtain ⟨k, ⟨gc, gp⟩, ⟨li, lc, lu, lk⟩, ⟨fz, fr, fb⟩, ⟨tz, tr, tb⟩, n⟩ := e
  unfold agE celE decB bl at *
  unfold agP at *
  simp only at *
  have e1 : (⟨#[32]⟩ : ByteArray).size = 1 := rfl
  generalize (⟨(decDigits n.toNat).toArray⟩ : ByteArray) = td at *
  generalize ptext (tz, tr, tb) = tt at *
  have s1 : (k ++ (⟨#[32]⟩ : ByteArray)).size ≤ 6 := by rw [ByteArray.size_append, e1]; omega
  have s2 : ((k ++ (⟨#[32]⟩ : ByteArray)) ++ li).size ≤ 14 := by rw [ByteArray.size_append]; omega
  have s3 : (((k ++ (⟨#[32]⟩ : ByteArray)) ++ li) ++ (⟨#[32]⟩ : ByteArray)).size ≤ 15 := by rw [ByteArray.size_append, e1]; omega
  have s4 : ((((k ++ (⟨#[32]⟩ : ByteArray)) ++ li) ++ (⟨#[32]⟩ : ByteArray)) ++ tt).size ≤ 51 := by rw [ByteArray.size_append]; omega
  have s5 : (((((k ++ (⟨#[32]⟩ : ByteArray)) ++ li) ++ (⟨#[32]⟩ : ByteArray)) ++ tt) ++ (⟨#[32]⟩ : ByteArray)).size ≤ 52 := by rw [ByteArray.size_append, e1]; omega
  have HC : Hid (Calls Tryz.prog 10 _ _ _) := hC
  have HE : Hid (BlkE _ _ _) := hE
  have HB : Hid (Below _ _ _) := hB
  clear hC hE hB
  go_enter Tryz.func12, Tryz.ntmps12
  go_wp2_with (first
    | (go_at_call 10; refine HC.out.mono ?_; rintro e w1 ⟨rfl, hb1⟩; have hbw1 := HB.out.trans (hb1.mono HB.out.size); have hE1 := HE.out.below hb1; obtain ⟨c0, c1, c2, c3, c4, c5, c6, c7, c8, c9, c10, c11, c12, c13⟩ := hE1.at; simp only at c0 c1 c2 c3 c4 c5 c6 c7 c8 c9 c10 c11 c12 c13)
    | (go_at_call 18; refine (hF _).mono ?_; rintro e w2 ⟨rfl, rfl⟩)
    | (go_at_call 19; refine (hT _).mono ?_; rintro e w2 ⟨rfl, rfl⟩)
    | (go_at_call_of 33 (Value.agg #[.string tz, .int .i64 tr, .int .i64 tb]); refine (hPt _).mono ?_; rintro e w4 ⟨rfl, hb4⟩; have hbw4 := hbw1.trans (hb4.mono hbw1.size); have hE4 := hE1.below hb4; obtain ⟨f0, f1, f2, f3, f4, f5, f6, f7, f8, f9, f10, f11, f12, f13⟩ := hE4.at; simp only at f0 f1 f2 f3 f4 f5 f6 f7 f8 f9 f10 f11 f12 f13)
    | (go_at_call 31; refine (hI _).mono ?_; rintro e w5 ⟨rfl, hb5⟩))
  go_ret
  exact ⟨rfl, hbw4.trans (hb5.mono hbw4.size)⟩
set_option maxRecDepth 100000 in
set_option maxHeartbeats 8000000 in
theorem ttx_from (e : En) (w : World) (hz : SzE e) (hk : e.1 = kOut ∨ e.1 = kLess) (h : entErr e = 0) (hok : PieceOk .frm e) :
    Calls Tryz.prog 12 #[agE e] w fun r w' => r = .returned (.string (arr (entB e))) ∧ Below w.heap.size w w' := by
  have hB : Below w.heap.size w (w.alloc (celE e)) := (Below.refl _ w).alloc (Nat.le_refl _) _
  have hE := BlkE.new w e
  have hC := terr_any e (w.alloc (celE e)) hz
  rw [h] at hC
  have hd : kd e.1 = .frm := by rcases hk with hk | hk <;> rw [hk] <;> rfl
  have HT := textR_from (e := e) hd
  have hF := fun w => hasFrom_any e.1 w
  have hT := fun w => hasTo_any e.1 w
  rw [hd] at hF hT
  have hg : (e.1.toList == kGoods.data.toList) = false := other_word (by rcases hk with hk | hk <;> rw [hk] <;> decide)
  have hl : (e.1.toList == kLot.data.toList) = false := other_word (by rcases hk with hk | hk <;> rw [hk] <;> decide)
  have bk := hok.k
  have bl8 := hok.li
  have bd := decB_size hok.n2
  have hI := fun w1 => refDecimal e.2.2.2.2.2 (by have := hok.n1; omega) (by have := hok.n2; omega) w1
  have bf := ptext_short (hok.fr rfl)
  have hPf := fun w1 => placeText_in e.2.2.2.1 w1 hz.fz (okP_of (hok.fr rfl))
  rw [← HT]
  clear HT hok hz h hd hk
  unfold kFrom at hF
  unfold kTo at hT
  obtain ⟨k, ⟨gc, gp⟩, ⟨li, lc, lu, lk⟩, ⟨fz, fr, fb⟩, ⟨tz, tr, tb⟩, n⟩ := e
  unfold agE celE decB bl at *
  unfold agP at *
  simp only at *
  have e1 : (⟨#[32]⟩ : ByteArray).size = 1 := rfl
  generalize (⟨(decDigits n.toNat).toArray⟩ : ByteArray) = td at *
  generalize ptext (fz, fr, fb) = tf at *
  have s1 : (k ++ (⟨#[32]⟩ : ByteArray)).size ≤ 6 := by rw [ByteArray.size_append, e1]; omega
  have s2 : ((k ++ (⟨#[32]⟩ : ByteArray)) ++ li).size ≤ 14 := by rw [ByteArray.size_append]; omega
  have s3 : (((k ++ (⟨#[32]⟩ : ByteArray)) ++ li) ++ (⟨#[32]⟩ : ByteArray)).size ≤ 15 := by rw [ByteArray.size_append, e1]; omega
  have s4 : ((((k ++ (⟨#[32]⟩ : ByteArray)) ++ li) ++ (⟨#[32]⟩ : ByteArray)) ++ tf).size ≤ 51 := by rw [ByteArray.size_append]; omega
  have s5 : (((((k ++ (⟨#[32]⟩ : ByteArray)) ++ li) ++ (⟨#[32]⟩ : ByteArray)) ++ tf) ++ (⟨#[32]⟩ : ByteArray)).size ≤ 52 := by rw [ByteArray.size_append, e1]; omega
  have HC : Hid (Calls Tryz.prog 10 _ _ _) := hC
  have HE : Hid (BlkE _ _ _) := hE
  have HB : Hid (Below _ _ _) := hB
  clear hC hE hB
  go_enter Tryz.func12, Tryz.ntmps12
  go_wp2_with (first
    | (go_at_call 10; refine HC.out.mono ?_; rintro e w1 ⟨rfl, hb1⟩; have hbw1 := HB.out.trans (hb1.mono HB.out.size); have hE1 := HE.out.below hb1; obtain ⟨c0, c1, c2, c3, c4, c5, c6, c7, c8, c9, c10, c11, c12, c13⟩ := hE1.at; simp only at c0 c1 c2 c3 c4 c5 c6 c7 c8 c9 c10 c11 c12 c13)
    | (go_at_call 18; refine (hF _).mono ?_; rintro e w2 ⟨rfl, rfl⟩)
    | (go_at_call 19; refine (hT _).mono ?_; rintro e w2 ⟨rfl, rfl⟩)
    | (go_at_call_of 33 (Value.agg #[.string fz, .int .i64 fr, .int .i64 fb]); refine (hPf _).mono ?_; rintro e w3 ⟨rfl, hb3⟩; have hbw3 := hbw1.trans (hb3.mono hbw1.size); have hE3 := hE1.below hb3; obtain ⟨d0, d1, d2, d3, d4, d5, d6, d7, d8, d9, d10, d11, d12, d13⟩ := hE3.at; simp only at d0 d1 d2 d3 d4 d5 d6 d7 d8 d9 d10 d11 d12 d13)
    | (go_at_call 31; refine (hI _).mono ?_; rintro e w5 ⟨rfl, hb5⟩))
  go_ret
  exact ⟨rfl, hbw3.trans (hb5.mono hbw3.size)⟩
set_option maxRecDepth 100000 in
set_option maxHeartbeats 8000000 in
theorem ttx_hold (e : En) (w : World) (hz : SzE e) (hk : e.1 = kHold ∨ e.1 = kFree) (h : entErr e = 0) (hok : PieceOk .hold e) :
    Calls Tryz.prog 12 #[agE e] w fun r w' => r = .returned (.string (arr (entB e))) ∧ Below w.heap.size w w' := by
  have hB : Below w.heap.size w (w.alloc (celE e)) := (Below.refl _ w).alloc (Nat.le_refl _) _
  have hE := BlkE.new w e
  have hC := terr_any e (w.alloc (celE e)) hz
  rw [h] at hC
  have hd : kd e.1 = .hold := by rcases hk with hk | hk <;> rw [hk] <;> rfl
  have HT := textR_hold (e := e) hd
  have hF := fun w => hasFrom_any e.1 w
  have hT := fun w => hasTo_any e.1 w
  rw [hd] at hF hT
  have hg : (e.1.toList == kGoods.data.toList) = false := other_word (by rcases hk with hk | hk <;> rw [hk] <;> decide)
  have hl : (e.1.toList == kLot.data.toList) = false := other_word (by rcases hk with hk | hk <;> rw [hk] <;> decide)
  have bk := hok.k
  have bl8 := hok.li
  have bd := decB_size hok.n2
  have hI := fun w1 => refDecimal e.2.2.2.2.2 (by have := hok.n1; omega) (by have := hok.n2; omega) w1
  rw [← HT]
  clear HT hok hz h hd hk
  unfold kFrom at hF
  unfold kTo at hT
  obtain ⟨k, ⟨gc, gp⟩, ⟨li, lc, lu, lk⟩, ⟨fz, fr, fb⟩, ⟨tz, tr, tb⟩, n⟩ := e
  unfold agE celE decB bl at *
  simp only at *
  have e1 : (⟨#[32]⟩ : ByteArray).size = 1 := rfl
  generalize (⟨(decDigits n.toNat).toArray⟩ : ByteArray) = td at *
  have s1 : (k ++ (⟨#[32]⟩ : ByteArray)).size ≤ 6 := by rw [ByteArray.size_append, e1]; omega
  have s2 : ((k ++ (⟨#[32]⟩ : ByteArray)) ++ li).size ≤ 14 := by rw [ByteArray.size_append]; omega
  have s3 : (((k ++ (⟨#[32]⟩ : ByteArray)) ++ li) ++ (⟨#[32]⟩ : ByteArray)).size ≤ 15 := by rw [ByteArray.size_append, e1]; omega
  have HC : Hid (Calls Tryz.prog 10 _ _ _) := hC
  have HE : Hid (BlkE _ _ _) := hE
  have HB : Hid (Below _ _ _) := hB
  clear hC hE hB
  go_enter Tryz.func12, Tryz.ntmps12
  go_wp2_with (first
    | (go_at_call 10; refine HC.out.mono ?_; rintro e w1 ⟨rfl, hb1⟩; have hbw1 := HB.out.trans (hb1.mono HB.out.size); have hE1 := HE.out.below hb1; obtain ⟨c0, c1, c2, c3, c4, c5, c6, c7, c8, c9, c10, c11, c12, c13⟩ := hE1.at; simp only at c0 c1 c2 c3 c4 c5 c6 c7 c8 c9 c10 c11 c12 c13)
    | (go_at_call 18; refine (hF _).mono ?_; rintro e w2 ⟨rfl, rfl⟩)
    | (go_at_call 19; refine (hT _).mono ?_; rintro e w2 ⟨rfl, rfl⟩)
    | (go_at_call 31; refine (hI _).mono ?_; rintro e w5 ⟨rfl, hb5⟩))
  go_ret
  exact ⟨rfl, hbw1.trans (hb5.mono hbw1.size)⟩
set_option maxRecDepth 100000 in
set_option maxHeartbeats 8000000 in
theorem ttx_move (e : En) (w : World) (hz : SzE e) (hk : e.1 = kMove) (h : entErr e = 0) (hok : PieceOk .move e) :
    Calls Tryz.prog 12 #[agE e] w fun r w' => r = .returned (.string (arr (entB e))) ∧ Below w.heap.size w w' := by
  have hB : Below w.heap.size w (w.alloc (celE e)) := (Below.refl _ w).alloc (Nat.le_refl _) _
  have hE := BlkE.new w e
  have hC := terr_any e (w.alloc (celE e)) hz
  rw [h] at hC
  have hd : kd e.1 = .move := by rw [hk]; rfl
  have HT := textR_move (e := e) hd
  have hF := fun w => hasFrom_any e.1 w
  have hT := fun w => hasTo_any e.1 w
  rw [hd] at hF hT
  have hg : (e.1.toList == kGoods.data.toList) = false := other_word (by rw [hk]; decide)
  have hl : (e.1.toList == kLot.data.toList) = false := other_word (by rw [hk]; decide)
  have bk := hok.k
  have bl8 := hok.li
  have bd := decB_size hok.n2
  have hI := fun w1 => refDecimal e.2.2.2.2.2 (by have := hok.n1; omega) (by have := hok.n2; omega) w1
  have bf := ptext_short (hok.fr rfl)
  have hPf := fun w1 => placeText_in e.2.2.2.1 w1 hz.fz (okP_of (hok.fr rfl))
  have bt := ptext_short (hok.tow rfl)
  have hPt := fun w1 => placeText_in e.2.2.2.2.1 w1 hz.tz (okP_of (hok.tow rfl))
  rw [← HT]
  clear HT hok hz h hd hk
  unfold kFrom at hF
  unfold kTo at hT
  obtain ⟨k, ⟨gc, gp⟩, ⟨li, lc, lu, lk⟩, ⟨fz, fr, fb⟩, ⟨tz, tr, tb⟩, n⟩ := e
  unfold agE celE decB bl at *
  unfold agP at *
  simp only at *
  have e1 : (⟨#[32]⟩ : ByteArray).size = 1 := rfl
  generalize (⟨(decDigits n.toNat).toArray⟩ : ByteArray) = td at *
  generalize ptext (fz, fr, fb) = tf at *
  generalize ptext (tz, tr, tb) = tt at *
  have s1 : (k ++ (⟨#[32]⟩ : ByteArray)).size ≤ 6 := by rw [ByteArray.size_append, e1]; omega
  have s2 : ((k ++ (⟨#[32]⟩ : ByteArray)) ++ li).size ≤ 14 := by rw [ByteArray.size_append]; omega
  have s3 : (((k ++ (⟨#[32]⟩ : ByteArray)) ++ li) ++ (⟨#[32]⟩ : ByteArray)).size ≤ 15 := by rw [ByteArray.size_append, e1]; omega
  have s4 : ((((k ++ (⟨#[32]⟩ : ByteArray)) ++ li) ++ (⟨#[32]⟩ : ByteArray)) ++ tf).size ≤ 51 := by rw [ByteArray.size_append]; omega
  have s5 : (((((k ++ (⟨#[32]⟩ : ByteArray)) ++ li) ++ (⟨#[32]⟩ : ByteArray)) ++ tf) ++ (⟨#[32]⟩ : ByteArray)).size ≤ 52 := by rw [ByteArray.size_append, e1]; omega
  have s6 : ((((((k ++ (⟨#[32]⟩ : ByteArray)) ++ li) ++ (⟨#[32]⟩ : ByteArray)) ++ tf) ++ (⟨#[32]⟩ : ByteArray)) ++ tt).size ≤ 88 := by rw [ByteArray.size_append]; omega
  have s7 : (((((((k ++ (⟨#[32]⟩ : ByteArray)) ++ li) ++ (⟨#[32]⟩ : ByteArray)) ++ tf) ++ (⟨#[32]⟩ : ByteArray)) ++ tt) ++ (⟨#[32]⟩ : ByteArray)).size ≤ 89 := by rw [ByteArray.size_append, e1]; omega
  have HC : Hid (Calls Tryz.prog 10 _ _ _) := hC
  have HE : Hid (BlkE _ _ _) := hE
  have HB : Hid (Below _ _ _) := hB
  clear hC hE hB
  go_enter Tryz.func12, Tryz.ntmps12
  go_wp2_with (first
    | (go_at_call 10; refine HC.out.mono ?_; rintro e w1 ⟨rfl, hb1⟩; have hbw1 := HB.out.trans (hb1.mono HB.out.size); have hE1 := HE.out.below hb1; obtain ⟨c0, c1, c2, c3, c4, c5, c6, c7, c8, c9, c10, c11, c12, c13⟩ := hE1.at; simp only at c0 c1 c2 c3 c4 c5 c6 c7 c8 c9 c10 c11 c12 c13)
    | (go_at_call 18; refine (hF _).mono ?_; rintro e w2 ⟨rfl, rfl⟩)
    | (go_at_call 19; refine (hT _).mono ?_; rintro e w2 ⟨rfl, rfl⟩)
    | (go_at_call_of 33 (Value.agg #[.string fz, .int .i64 fr, .int .i64 fb]); refine (hPf _).mono ?_; rintro e w3 ⟨rfl, hb3⟩; have hbw3 := hbw1.trans (hb3.mono hbw1.size); have hE3 := hE1.below hb3; obtain ⟨d0, d1, d2, d3, d4, d5, d6, d7, d8, d9, d10, d11, d12, d13⟩ := hE3.at; simp only at d0 d1 d2 d3 d4 d5 d6 d7 d8 d9 d10 d11 d12 d13)
    | (go_at_call_of 33 (Value.agg #[.string tz, .int .i64 tr, .int .i64 tb]); refine (hPt _).mono ?_; rintro e w4 ⟨rfl, hb4⟩; have hbw4 := hbw3.trans (hb4.mono hbw3.size); have hE4 := hE3.below hb4; obtain ⟨f0, f1, f2, f3, f4, f5, f6, f7, f8, f9, f10, f11, f12, f13⟩ := hE4.at; simp only at f0 f1 f2 f3 f4 f5 f6 f7 f8 f9 f10 f11 f12 f13)
    | (go_at_call 31; refine (hI _).mono ?_; rintro e w5 ⟨rfl, hb5⟩))
  go_ret
  exact ⟨rfl, hbw4.trans (hb5.mono hbw4.size)⟩
end Go.Proofs.YtgdhfipbbijngaaGreatDoor
