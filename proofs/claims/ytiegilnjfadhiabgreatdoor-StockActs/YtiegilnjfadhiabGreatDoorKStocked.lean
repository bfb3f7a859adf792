/-
  The closed fact of the laws on stocks: it answers true in every world that holds the sentinels and strconv's table of powers as the program lays them.
-/
import Derived.Test.YtiegilnjfadhiabGreatDoorKTextW
import Derived.Test.YtiegilnjfadhiabGreatDoorKPutIn
namespace Go.Proofs.YtiegilnjfadhiabGreatDoor
open Go.RowKit Go.Lib Go.Sort

theorem BoxAt.grown {q b : Nat} {x : Pl} {W W' : World} (h : BoxAt q x W) (hg : W.grownBy W' (some b)) (hne : q ≠ b) : BoxAt q x W' := by
  have hlt : q < W.heap.size := cell_lt h.c0
  have hb := hg.block q hlt (by simp; exact hne)
  exact ⟨(World.cell?_of_block (a := ⟨q, 0, none⟩) hb).trans h.c0, (World.cell?_of_block (a := ⟨q, 1, none⟩) hb).trans h.c1, (World.cell?_of_block (a := ⟨q, 2, none⟩) hb).trans h.c2⟩
/-- Sentinels and the table of powers, below a bound. -/
structure Old (w : World) (s : Nat → Addr) : Prop where
  five : Five w s
  pow : Pow w
theorem Old.below {w w' : World} {s : Nat → Addr} (h : Old w s) (hb : Below w.heap.size w w') : Old w' s := ⟨h.five.below hb, h.pow.below hb⟩
def kz : Pl := (⟨#[97]⟩, 1, 2)
def kc : ByteArray := ⟨#[108, 49]⟩
theorem kz_put : putE [] kz kc 5 = 0 ∧ putL [] kz kc 5 = [(kz, kc, 5)] := by decide
theorem kz_take : takeE [(kz, kc, 5)] (kz, kc) 2 = 0 ∧ takeL [(kz, kc, 5)] (kz, kc) 2 = [(kz, kc, 3)] := by decide
theorem kz_at : atL [(kz, kc, 3)] (kz, kc) = 3 := by decide
theorem kz_text : (⟨(textB [(kz, kc, 3)]).toArray⟩ : ByteArray) = ⟨#[97, 45, 49, 45, 50, 32, 108, 49, 32, 51, 10]⟩ := by
  have e1 : decDigits 1 = [49] := by rw [decDigits_one (by decide)]; rfl
  have e2 : decDigits 2 = [50] := by rw [decDigits_one (by decide)]; rfl
  have e3 : decDigits 3 = [51] := by rw [decDigits_one (by decide)]; rfl
  have h1 : pbytes kz = [97, 45, 49, 45, 50] := by
    rw [pbytes_ok (by decide)]
    show [97] ++ 45 :: (decDigits 1 ++ 45 :: decDigits 2) = _
    rw [e1, e2]; rfl
  rw [textB_one]
  unfold lineB
  show (⟨((pbytes kz ++ 32 :: ([108, 49] ++ 32 :: decDigits 3)) ++ [10]).toArray⟩ : ByteArray) = _
  rw [h1, e3]; rfl
theorem kz_key : KeyOk (kz, kc) := ⟨by decide, by decide, by decide, by decide⟩
set_option maxRecDepth 100000 in
set_option maxHeartbeats 4000000 in
theorem stocked_any (w : World) (s : Nat → Addr) (hs : Old w s) :
    Calls Tryz.prog 5 #[] w fun e w' => e = .returned (.bool true) ∧ Below w.heap.size w w' := by
  have H1 : Hid (∀ w1 p b, IsStock w1 p b [] → Below w.heap.size w w1 → Calls Tryz.prog 13 #[.pointer (some ⟨p, 0, none⟩), agP kz, .string kc, .int .i64 5] w1 fun e w' => e = .returned .nilIface ∧ IsStock w' p b [(kz, kc, 5)] ∧ w1.grownBy w' (some b)) := fun w1 p b hi hb => by
    have := put_any kz kc 5 w1 s p b [] hi (by decide) (by decide) (hs.five.below hb)
    rw [kz_put.1, kz_put.2] at this
    exact this
  have H2 : Hid (∀ w1 p b, IsStock w1 p b [(kz, kc, 5)] → Below w.heap.size w w1 → Calls Tryz.prog 15 #[.pointer (some ⟨p, 0, none⟩), agP kz, .string kc, .int .i64 2] w1 fun e w' => e = .returned .nilIface ∧ IsStock w' p b [(kz, kc, 3)] ∧ w1.grownBy w' (some b)) := fun w1 p b hi hb => by
    have := take_any kz kc 2 w1 s p b _ hi kz_key (hs.five.below hb)
    rw [kz_take.1, kz_take.2] at this
    exact this
  have H3 : Hid (∀ w1 p b, IsStock w1 p b [(kz, kc, 3)] → Calls Tryz.prog 20 #[.pointer (some ⟨p, 0, none⟩), agP kz, .string kc] w1 fun e w' => e = .returned (.int .i64 3) ∧ Below w1.heap.size w1 w') := fun w1 p b hi => by
    have := at_any kz kc w1 p b _ hi kz_key
    rw [kz_at] at this
    exact this
  have H4 : Hid (∀ w1 p b, IsStock w1 p b [(kz, kc, 3)] → Below w.heap.size w w1 → Calls Tryz.prog 10 #[.pointer (some ⟨p, 0, none⟩)] w1 fun e w' => e = .returned (.string ⟨#[97, 45, 49, 45, 50, 32, 108, 49, 32, 51, 10]⟩) ∧ Below w1.heap.size w1 w') := fun w1 p b hi hb => by
    have := text_any w1 s p b _ hi (hs.five.two.below hb) (hs.pow.below hb)
    rw [kz_text] at this
    exact this
  clear hs
  have hbox := fun (w1 : World) => BoxAt.new w1 kz 41 _ rfl
  unfold agP kz kc at *
  simp only at *
  go_enter Tryz.func5, Tryz.ntmps5
  go_wp2_with (first
    | (go_at_call 11; refine (new_any _).mono ?_; rintro e w1 ⟨rfl, hi1, hb1⟩; have hx1 := hbox w1; have hlt := hi1.lt; obtain ⟨c0, c1, c2⟩ := hbox w1; have hba := hb1.alloc hb1.size (.cells #[.string ⟨#[97]⟩, .int .i64 1, .int .i64 2] 41); have hia := hi1.all ((Below.refl _ w1).alloc (Nat.le_refl _) (.cells #[.string ⟨#[97]⟩, .int .i64 1, .int .i64 2] 41)); simp only at c0 c1 c2)
    | (go_at_call 13; refine (H1.out _ _ _ hia hba).mono ?_; rintro e w2 ⟨rfl, hi2, hg2⟩; have hb2 := grown_below hba (Nat.le_refl _) hg2; have hx2 := hx1.grown hg2 (by omega); obtain ⟨d0, d1, d2⟩ := hx2; simp only at d0 d1 d2)
    | (go_at_call 15; refine (H2.out _ _ _ hi2 hb2).mono ?_; rintro e w3 ⟨rfl, hi3, hg3⟩; have hb3 := grown_below hb2 (Nat.le_refl _) hg3; have hx3 := (hx1.grown hg2 (by omega)).grown hg3 (by omega); obtain ⟨f0, f1, f2⟩ := hx3; simp only at f0 f1 f2)
    | (go_at_call 20; refine (H3.out _ _ _ hi3).mono ?_; rintro e w4 ⟨rfl, hb4⟩; have hi4 := hi3.all hb4; have hb4w := hb3.trans (hb4.mono hb3.size))
    | (go_at_call 10; refine (H4.out _ _ _ hi4 hb4w).mono ?_; rintro e w5 ⟨rfl, hb5⟩))
  go_ret
  exact ⟨rfl, hb4w.trans (hb5.mono hb4w.size)⟩
end Go.Proofs.YtiegilnjfadhiabGreatDoor
