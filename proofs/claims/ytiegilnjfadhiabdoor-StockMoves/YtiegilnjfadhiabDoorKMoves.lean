/-
  The law StockMoves answers true: of more than forty acts, and of up to forty.
-/
import Derived.Test.YtiegilnjfadhiabDoorKActs
namespace Go.Proofs.YtiegilnjfadhiabDoor
open Go.RowKit Go.Lib Go.Sort

set_option maxRecDepth 100000 in
set_option maxHeartbeats 1000000 in
theorem moves_long (pp : Option Addr) (k cp : Nat) (x y : Pl) (c : ByteArray) (n : Int) (w : World) (s : Nat → Addr) (hO : Old6 w s) (hn : 40 < k) (hm : k ≤ maxLen) :
    Calls Tryd.prog 5 #[.slice pp k cp, agP x, agP y, .string c, .int .i64 n] w fun e w' => e = .returned (.bool true) ∧ Below w.heap.size w w' := by
  have hB := boxTwo_below w x y
  have ht := stocked_any _ s (hO.old.below hB)
  unfold maxLen at hm
  obtain ⟨a, r, bb⟩ := x
  obtain ⟨a', r', bb'⟩ := y
  unfold agP boxTwo at *
  simp only at *
  have HT : Hid (Calls Tryd.prog 19 _ _ _) := ht
  have HB : Hid (Below _ _ _) := hB
  clear ht hO hB
  go_enter Tryd.func5, Tryd.ntmps5
  go_wp2_with (go_at_call 19; refine HT.out.mono ?_; rintro e w1 ⟨rfl, hb⟩)
  go_ret
  exact ⟨rfl, HB.out.trans (hb.mono HB.out.size)⟩
set_option maxRecDepth 100000 in
set_option maxHeartbeats 8000000 in
theorem moves_in (pp : Option Addr) (d : List Ac) (cp : Nat) (x y : Pl) (c : ByteArray) (n : Int) (w : World) (s : Nat → Addr) (hO : Old6 w s) (h40 : d.length ≤ 40) (hr : d = [] ∨ ∃ b off, pp = some ⟨b, off, none⟩ ∧ RowA w b off d) (hkx : KeyOk (x, c)) (hky : KeyOk (y, c)) :
    Calls Tryd.prog 5 #[.slice pp d.length cp, agP x, agP y, .string c, .int .i64 n] w fun e w' => e = .returned (.bool true) ∧ Below w.heap.size w w' := by
  have hB := boxTwo_below w x y
  have hx := boxTwo_first w x y
  have hy := boxTwo_second w x y
  have hW := hO.below hB
  have ht := stocked_any _ s hW.old
  have hrW : d = [] ∨ ∃ b off, pp = some ⟨b, off, none⟩ ∧ RowA (boxTwo w x y) b off d := by
    rcases hr with h | ⟨b, off, h1, h2⟩
    · exact Or.inl h
    · exact Or.inr ⟨b, off, h1, h2.below hB⟩
  have HTx : Hid (∀ w1 p b m, IsStock w1 p b m → _ → Calls Tryd.prog 22 _ w1 _) := lawText hW
  have HOf : Hid (∀ w1 p b m, IsStock w1 p b m → Below (boxTwo w x y).heap.size (boxTwo w x y) w1 → Calls Tryd.prog 23 _ w1 _) := lawOf c
  have HAx : Hid (∀ w1 p b m, IsStock w1 p b m → Below (boxTwo w x y).heap.size (boxTwo w x y) w1 → Calls Tryd.prog 24 #[.pointer (some ⟨p, 0, none⟩), agP x, .string c] w1 _) := lawAt x c hkx
  have HAy : Hid (∀ w1 p b m, IsStock w1 p b m → Below (boxTwo w x y).heap.size (boxTwo w x y) w1 → Calls Tryd.prog 24 #[.pointer (some ⟨p, 0, none⟩), agP y, .string c] w1 _) := lawAt y c hky
  have HMv : Hid (∀ w1 p b m, IsStock w1 p b m → _ → _ → Calls Tryd.prog 25 #[.pointer (some ⟨p, 0, none⟩), agP x, agP y, .string c, .int .i64 n] w1 _) := lawMove hW x y c n hkx hky.z
  have HMb : Hid (∀ w1 p b m, IsStock w1 p b m → _ → _ → Calls Tryd.prog 25 #[.pointer (some ⟨p, 0, none⟩), agP y, agP x, .string c, .int .i64 n] w1 _) := lawMove hW y x c n hky hkx.z
  have HPu : Hid (∀ (z : Ac), WfA z → ∀ w1 p b m, IsStock w1 p b m → _ → _ → Calls Tryd.prog 21 #[.pointer (some ⟨p, 0, none⟩), agP z.2.1, .string z.2.2.2.1, .int .i64 z.2.2.2.2] w1 _) := fun z hz => lawPut hW z.2.1 z.2.2.2.1 z.2.2.2.2 hz.from_
  have HRd : Hid (∀ w1 m, Wf m → _ → Calls Tryd.prog 26 _ w1 _) := lawBack hW
  have HRw : Hid (d = [] ∨ ∃ b off, pp = some ⟨b, off, none⟩ ∧ RowA (boxTwo w x y) b off d) := hrW
  have HT : Hid (Calls Tryd.prog 19 _ _ _) := ht
  have HB : Hid (Below _ _ _) := hB
  have HX : Hid (BoxAt _ x _) := hx
  have HY : Hid (BoxAt _ y _) := hy
  clear hO hr hrW hkx hky hW ht hB hx hy
  generalize hdl : d.length = k0 at *
  have HD : Hid (d.length = k0) := hdl
  clear hdl
  have HXY : Hid (∀ m, Wf m → moveE m x y c n = 0 → 1 ≤ n ∧ n ≤ 1099511627776 ∧ ofL (moveL m x y c n) c = ofL m c ∧ atL (moveL m x y c n) (x, c) = atL m (x, c) - n ∧ atL (moveL m x y c n) (y, c) = atL m (y, c) + n ∧ Wf (moveL m x y c n) ∧ moveE (moveL m x y c n) y x c n = 0 ∧ moveL (moveL m x y c n) y x c n = m) := fun m hw h0 => by
    obtain ⟨h1, h2, h3, h4⟩ := moveE_zero h0
    obtain ⟨t1, t2, t3⟩ := takeE_zero h1
    obtain ⟨b1, b2⟩ := move_back hw h0
    exact ⟨t1, t2, move_of hw h0 c, by rw [move_at h0, if_neg (spot_ne h3), if_pos rfl], by rw [move_at h0, if_pos rfl], hw.move x y c n, b1, b2⟩
  obtain ⟨a, r, bb⟩ := x
  obtain ⟨a', r', bb'⟩ := y
  unfold agP boxTwo at *
  simp only at *
  go_enter Tryd.func5, Tryd.ntmps5
  go_wp2_with (first
    | (go_at_call 19; refine HT.out.mono ?_; rintro e w1 ⟨rfl, hb1⟩)
    | (go_at_call 20; refine (new_any _).mono ?_; rintro e w2 ⟨rfl, hi2, hb2⟩; have hbw2 := hb1.trans (hb2.mono hb1.size)))
  have hs1 := hb1.size
  generalize (w.alloc (.cells #[.string a, .int .i64 r, .int .i64 bb] 45)).alloc (.cells #[.string a', .int .i64 r', .int .i64 bb'] 45) = W at *
  generalize hp : w1.heap.size + 1 = p at *
  generalize hbk : w1.heap.size = b at *
  have hbW : Hid (W.heap.size ≤ b) := hs1
  clear hp hbk hs1 hb2 hb1 HT
  go_loopw [13] (fun i wr => ∃ (k : Nat) (m : List Ln), k ≤ k0 ∧ i = .int .i64 k ∧ IsStock wr p b m ∧ Below W.heap.size W wr) (fun i _ => k0 - (RowKit.intOf i).toNat)
  case atStart => exact ⟨0, [], Nat.zero_le _, rfl, hi2, hbw2⟩
  case round =>
    clear hi2 hbw2
    obtain ⟨k, m, hk, rfl, hi, hb⟩ := hrel
    by_cases hlt : k < k0
    · rcases HRw.out with h0 | ⟨bq, off, rfl, hrow⟩
      · exfalso; have := HD.out; rw [h0] at this; simp at this; omega
      · have hkd : k < d.length := by rw [HD.out]; exact hlt
        obtain ⟨z, hz⟩ : ∃ z, d[k]? = some z := ⟨_, List.getElem?_eq_getElem hkd⟩
        obtain ⟨hat, hwf⟩ := hrow k z hz
        have HAt : Hid (∀ w1, Below W.heap.size W w1 → ActAt w1 bq (off + k * 9) z) := fun w1 h => hat.below h
        have hpu := HPu.out z hwf
        obtain ⟨c0, c1, c2, c3, c4, c5, c6, c7, c8⟩ := hat.below hb
        clear hz hkd hat hrow
        obtain ⟨zk, ⟨za, zr, zb⟩, ⟨ta, tr, tb⟩, zc, zn⟩ := z
        simp only at c0 c1 c2 c3 c4 c5 c6 c7 c8 hpu HAt
        have hi0 : (0 : Int) ≤ (k : Int) := by omega
        have hik : (k : Int) < (k0 : Int) := by omega
        have hbd : Below W.heap.size W wr.drew := hb.drew
        have hid : IsStock wr.drew p b m := hi.all ((Below.refl _ wr).drew)
        go_wp2
        go_region_held3 (fun w' => w'.cell? ⟨bq, off + k * 9 + 1, none⟩ = some (.string za) ∧ w'.cell? ⟨bq, off + k * 9 + 1 + 1, none⟩ = some (.int .i64 zr) ∧ w'.cell? ⟨bq, off + k * 9 + 1 + 2, none⟩ = some (.int .i64 zb) ∧ w'.cell? ⟨bq, off + k * 9 + 7, none⟩ = some (.string zc) ∧ w'.cell? ⟨bq, off + k * 9 + 8, none⟩ = some (.int .i64 zn)) (go_keep)
          (first
            | (go_at_call 21; refine (hpu _ p b m hid hbd hbW.out).mono ?_; rintro e w3 ⟨rfl, hi3, hb3, hg3⟩; obtain ⟨e0, e1, e2, e3, e4, e5, e6, e7, e8⟩ := HAt.out _ hb3; simp only at e0 e1 e2 e3 e4 e5 e6 e7 e8))
        go_wp2
        go_roundw
        case rel => exact ⟨k + 1, _, by omega, by go_num, hi3, hb3⟩
        case measure => simp [RowKit.intOf]; omega
    · have hwf := hi.wf
      have hv0 := hwf.at_nonneg ((a, r, bb), c)
      have hv1 : atL m ((a, r, bb), c) ≤ 1099511627776 := Int.le_trans (hwf.at_le ((a, r, bb), c)) (hwf.most _)
      have hu0 := hwf.at_nonneg ((a', r', bb'), c)
      have hu1 : atL m ((a', r', bb'), c) ≤ 1099511627776 := Int.le_trans (hwf.at_le ((a', r', bb'), c)) (hwf.most _)
      have hBox : Hid (∀ w1, Below W.heap.size W w1 → BoxAt w.heap.size (a, r, bb) w1 ∧ BoxAt (w.heap.size + 1) (a', r', bb') w1) := fun w1 h => ⟨HX.out.below h, HY.out.below h⟩
      obtain ⟨⟨b0, b1, b2⟩, b3, b4, b5⟩ := hBox.out _ hb
      simp only at b0 b1 b2 b3 b4 b5
      by_cases h0 : moveE m (a, r, bb) (a', r', bb') c n = 0
      · obtain ⟨n1, n2, q1, q2, q3, q4, q5, q6⟩ := HXY.out m hwf h0
        have HM1 : Hid (∀ w1, IsStock w1 p b m → Below W.heap.size W w1 → Calls Tryd.prog 25 #[.pointer (some ⟨p, 0, none⟩), .agg #[.string a, .int .i64 r, .int .i64 bb], .agg #[.string a', .int .i64 r', .int .i64 bb'], .string c, .int .i64 n] w1 fun e w' => e = .returned .nilIface ∧ IsStock w' p b (moveL m (a, r, bb) (a', r', bb') c n) ∧ Below W.heap.size W w') := fun w1 h1 h2 => (HMv.out w1 p b m h1 h2 hbW.out).mono fun _ _ ⟨he, hi', hb', _⟩ => ⟨by rw [he, h0]; rfl, hi', hb'⟩
        have HM2 : Hid (∀ w1, IsStock w1 p b (moveL m (a, r, bb) (a', r', bb') c n) → Below W.heap.size W w1 → Calls Tryd.prog 25 #[.pointer (some ⟨p, 0, none⟩), .agg #[.string a', .int .i64 r', .int .i64 bb'], .agg #[.string a, .int .i64 r, .int .i64 bb], .string c, .int .i64 n] w1 fun e w' => e = .returned .nilIface ∧ IsStock w' p b m ∧ Below W.heap.size W w') := fun w1 h1 h2 => (HMb.out w1 p b _ h1 h2 hbW.out).mono fun _ _ ⟨he, hi', hb', _⟩ => ⟨by rw [he, q5]; rfl, by rw [q6] at hi'; exact hi', hb'⟩
        clear HMv HMb HPu HXY HRw HX HY HD h0 q5 q6 hwf
        generalize moveL m (a, r, bb) (a', r', bb') c n = m' at *
        have hw' := q4
        clear q4
        go_wp2_with (first
          | (go_at_call 22; refine (HTx.out _ _ _ _ (by assumption) (by assumption)).mono ?_; rintro e w9 ⟨rfl, hi9, hb9, hl9⟩; (try have hiS := hiS.all hl9); obtain ⟨⟨b0, b1, b2⟩, b3, b4, b5⟩ := hBox.out _ hb9; simp only at b0 b1 b2 b3 b4 b5)
          | (go_at_call 23; refine (HOf.out _ _ _ _ (by assumption) (by assumption)).mono ?_; rintro e w9 ⟨rfl, hi9, hb9, hl9⟩; obtain ⟨⟨b0, b1, b2⟩, b3, b4, b5⟩ := hBox.out _ hb9; simp only at b0 b1 b2 b3 b4 b5)
          | (go_at_call_of 24 (Value.agg #[.string a, .int .i64 r, .int .i64 bb]); refine (HAx.out _ _ _ _ (by assumption) (by assumption)).mono ?_; rintro e w9 ⟨rfl, hi9, hb9, hl9⟩; obtain ⟨⟨b0, b1, b2⟩, b3, b4, b5⟩ := hBox.out _ hb9; simp only at b0 b1 b2 b3 b4 b5)
          | (go_at_call_of 24 (Value.agg #[.string a', .int .i64 r', .int .i64 bb']); refine (HAy.out _ _ _ _ (by assumption) (by assumption)).mono ?_; rintro e w9 ⟨rfl, hi9, hb9, hl9⟩; obtain ⟨⟨b0, b1, b2⟩, b3, b4, b5⟩ := hBox.out _ hb9; simp only at b0 b1 b2 b3 b4 b5)
          | (go_at_call 25; refine (HM1.out _ (by assumption) (by assumption)).mono ?_; clear HM1; rintro e w9 ⟨rfl, hi9, hb9⟩; obtain ⟨⟨b0, b1, b2⟩, b3, b4, b5⟩ := hBox.out _ hb9; simp only at b0 b1 b2 b3 b4 b5)
          | (go_at_call 25; refine (HM2.out _ (by assumption) (by assumption)).mono ?_; clear HM2; rintro e w9 ⟨rfl, hi9, hb9⟩; obtain ⟨⟨b0, b1, b2⟩, b3, b4, b5⟩ := hBox.out _ hb9; simp only at b0 b1 b2 b3 b4 b5)
          | (go_at_call 26; refine (HRd.out _ _ hw' (by assumption)).mono ?_; rintro e w10 ⟨pt, bt, rfl, hit, hb9, hl9⟩; have hiS := hi9.all hl9; obtain ⟨⟨b0, b1, b2⟩, b3, b4, b5⟩ := hBox.out _ hb9; simp only at b0 b1 b2 b3 b4 b5))
        go_ret
        refine ⟨rfl, HB.out.trans (Below.mono (B := W.heap.size) ?_ HB.out.size)⟩
        assumption
      · have HM1 : Hid (∀ w1, IsStock w1 p b m → Below W.heap.size W w1 → Calls Tryd.prog 25 #[.pointer (some ⟨p, 0, none⟩), .agg #[.string a, .int .i64 r, .int .i64 bb], .agg #[.string a', .int .i64 r', .int .i64 bb'], .string c, .int .i64 n] w1 fun e w' => e = .returned (err (s (moveE m (a, r, bb) (a', r', bb') c n - 1))) ∧ IsStock w' p b m ∧ Below W.heap.size W w') := fun w1 h1 h2 => (HMv.out w1 p b m h1 h2 hbW.out).mono fun _ _ ⟨he, hi', hb', _⟩ => ⟨by rw [he, errP_pos s h0], by rw [moveL_err h0] at hi'; exact hi', hb'⟩
        clear HMv HMb HPu HXY HRw HX HY HD h0 hwf
        generalize s (moveE m (a, r, bb) (a', r', bb') c n - 1) = ad at *
        go_wp2_with (first
          | (go_at_call 22; refine (HTx.out _ _ _ _ (by assumption) (by assumption)).mono ?_; rintro e w9 ⟨rfl, hi9, hb9, hl9⟩; (try have hiS := hiS.all hl9); obtain ⟨⟨b0, b1, b2⟩, b3, b4, b5⟩ := hBox.out _ hb9; simp only at b0 b1 b2 b3 b4 b5)
          | (go_at_call 23; refine (HOf.out _ _ _ _ (by assumption) (by assumption)).mono ?_; rintro e w9 ⟨rfl, hi9, hb9, hl9⟩; obtain ⟨⟨b0, b1, b2⟩, b3, b4, b5⟩ := hBox.out _ hb9; simp only at b0 b1 b2 b3 b4 b5)
          | (go_at_call_of 24 (Value.agg #[.string a, .int .i64 r, .int .i64 bb]); refine (HAx.out _ _ _ _ (by assumption) (by assumption)).mono ?_; rintro e w9 ⟨rfl, hi9, hb9, hl9⟩; obtain ⟨⟨b0, b1, b2⟩, b3, b4, b5⟩ := hBox.out _ hb9; simp only at b0 b1 b2 b3 b4 b5)
          | (go_at_call_of 24 (Value.agg #[.string a', .int .i64 r', .int .i64 bb']); refine (HAy.out _ _ _ _ (by assumption) (by assumption)).mono ?_; rintro e w9 ⟨rfl, hi9, hb9, hl9⟩; obtain ⟨⟨b0, b1, b2⟩, b3, b4, b5⟩ := hBox.out _ hb9; simp only at b0 b1 b2 b3 b4 b5)
          | (go_at_call 25; refine (HM1.out _ (by assumption) (by assumption)).mono ?_; clear HM1; rintro e w9 ⟨rfl, hi9, hb9⟩; obtain ⟨⟨b0, b1, b2⟩, b3, b4, b5⟩ := hBox.out _ hb9; simp only at b0 b1 b2 b3 b4 b5))
        go_ret
        refine ⟨rfl, HB.out.trans (Below.mono (B := W.heap.size) ?_ HB.out.size)⟩
        assumption
end Go.Proofs.YtiegilnjfadhiabDoor
