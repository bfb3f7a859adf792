/-
  The law GoodsTell walked, in every world that holds the sentinels, errors.errorType and strconv's table of powers as the program lays them: it answers true and leaves what was there as it was.
-/
import Derived.Test.YtmgjjmgponebcaaDoorTellParts
import Derived.Test.YtmgjjmgponebcaaDoorBackWalk
import Derived.Lib.QuietBelow
namespace Go.Proofs.YtmgjjmgponebcaaDoor
open Go.RowKit Go.Lib Go.Sort

set_option maxHeartbeats 2000000 in
theorem tell_long (c x : ByteArray) (gp n pack : Int) (w : World) (hp : Pow w) (hz : c.size ≤ maxLen) (hx : x.size ≤ maxLen) (h : 30 < c.size ∨ 40 < x.size) :
    Calls Tryd.prog 4 #[.agg #[.string c, .int .i64 gp], .int .i64 n, .int .i64 pack, .string x] w fun e w' => e = .returned (.bool true) ∧ Below w.heap.size w w' := by
  have hA : Below w.heap.size w (w.alloc (.cells #[.string c, .int .i64 gp] 36)) := (Below.refl _ _).alloc (Nat.le_refl _) _
  have ht := told_any _ (hp.below hA)
  have HT : Hid (Calls Tryd.prog 10 #[] (w.alloc (.cells #[.string c, .int .i64 gp] 36)) fun e w' => e = .returned (.bool true) ∧ Below (w.alloc (.cells #[.string c, .int .i64 gp] 36)).heap.size (w.alloc (.cells #[.string c, .int .i64 gp] 36)) w') := ht
  unfold maxLen at hz hx
  clear ht hp
  by_cases h1 : 30 < c.size
  · clear h
    go_enter Tryd.func4, Tryd.ntmps4
    go_wp2_with (go_at_call 10; refine HT.out.mono ?_; rintro e w1 ⟨rfl, hb⟩; have hg0 : w1.cell? ⟨w.heap.size, 0, none⟩ = some (.string c) := (hb.cell (p := ⟨w.heap.size, 0, none⟩) (by simp)).trans (by simp))
    go_ret
    exact ⟨rfl, hA.trans (hb.mono hA.size)⟩
  · have h2 : 40 < x.size := by omega
    clear h
    go_enter Tryd.func4, Tryd.ntmps4
    go_wp2_with (go_at_call 10; refine HT.out.mono ?_; rintro e w1 ⟨rfl, hb⟩; have hg0 : w1.cell? ⟨w.heap.size, 0, none⟩ = some (.string c) := (hb.cell (p := ⟨w.heap.size, 0, none⟩) (by simp)).trans (by simp))
    go_ret
    exact ⟨rfl, hA.trans (hb.mono hA.size)⟩

theorem goodsErr_le (l : List UInt8) (p : Int) : goodsErr l p ≤ 12 := by
  unfold goodsErr; split
  · split <;> decide
  · decide

set_option maxHeartbeats 4000000 in
theorem tell_short (c x : ByteArray) (gp n pack : Int) (w : World) (s : Nat → Addr) (hs : Sent w s) (hh : Handle w) (hp : Pow w) (h1 : c.size ≤ 30) (h2 : x.size ≤ 40) :
    Calls Tryd.prog 4 #[.agg #[.string c, .int .i64 gp], .int .i64 n, .int .i64 pack, .string x] w fun e w' => e = .returned (.bool true) ∧ Below w.heap.size w w' := by
  have hA : Below w.heap.size w (w.alloc (.cells #[.string c, .int .i64 gp] 36)) := (Below.refl _ _).alloc (Nat.le_refl _) _
  have ht := told_any _ (hp.below hA)
  have HT : Hid (Calls Tryd.prog 10 #[] (w.alloc (.cells #[.string c, .int .i64 gp] 36)) fun e w' => e = .returned (.bool true) ∧ Below (w.alloc (.cells #[.string c, .int .i64 gp] 36)).heap.size (w.alloc (.cells #[.string c, .int .i64 gp] 36)) w') := ht
  have hz1 : c.size ≤ maxLen := by unfold maxLen; omega
  have hz2 : x.size ≤ maxLen := by unfold maxLen; omega
  have hcode := readOf_code x.data.toList pack
  have hR : ∀ w1, Below w.heap.size w w1 → Calls Tryd.prog 11 #[.string x, .int .i64 pack] w1 _ := fun w1 hb => read_any x pack w1 s hz2 (hs.below hb)
  have hRP : ∀ w1, Calls Tryd.prog 12 #[.string x, .int .i64 pack] w1 _ := fun w1 => readPieces_any x pack w1 hz2
  have hNm : ∀ w1, Calls Tryd.prog 18 #[.string x] w1 _ := fun w1 => name_any x w1 hz2
  have hIN : ∀ w1, Calls Tryd.prog 17 #[.string x] w1 _ := fun w1 => isName_any x w1 hz2
  have hCh : ∀ w1, Below w.heap.size w w1 → Calls Tryd.prog 13 #[.agg #[.string c, .int .i64 gp]] w1 _ := fun w1 hb => check_any c gp w1 s hz1 (hs.below hb)
  have hGE : ∀ w1, Calls Tryd.prog 14 #[.agg #[.string c, .int .i64 gp]] w1 _ := fun w1 => goodsError_any c gp w1 hz1
  have hTx : ∀ w1, Below w.heap.size w w1 → Calls Tryd.prog 15 #[.int .i64 n, .int .i64 pack] w1 _ := fun w1 hb => text_any n pack w1 (hp.below hb)
  have hPT : ∀ w1, Calls Tryd.prog 16 #[.int .i64 n, .int .i64 pack] w1 _ := fun w1 => piecesText_any n pack w1
  have hCG : ∀ w1, Below w.heap.size w w1 → Calls Tryd.prog 8 #[errOf s (goodsErr c.data.toList gp), .int .i64 (goodsErr c.data.toList gp)] w1 _ := fun w1 hb => coded_any s _ (goodsErr_le _ _) _ w1 (hs.below hb) (hh.below hb)
  have hCR : ∀ w1, Below w.heap.size w w1 → Calls Tryd.prog 8 #[errOf s (readOf x.data.toList pack).2, .int .i64 (readOf x.data.toList pack).2] w1 _ := fun w1 hb => coded_any s _ (by omega) _ w1 (hs.below hb) (hh.below hb)
  simp only [decide_true] at hCG hCR
  simp only [two] at hRP
  generalize (readOf x.data.toList pack).1 = rv at *
  generalize (readOf x.data.toList pack).2 = rc at *
  generalize goodsErr c.data.toList gp = gc at *
  generalize errOf s gc = eg at *
  generalize errOf s rc = er at *
  generalize (⟨(textOf n pack).toArray⟩ : ByteArray) = tx at *
  generalize isName x.data.toList = nm at *
  clear ht hp hz1 hz2 hcode hs hh
  go_enter Tryd.func4, Tryd.ntmps4
  go_wp2_with (first
    | (go_at_call 10; refine HT.out.mono ?_; rintro e w1 ⟨rfl, hb⟩; have hg0 : w1.cell? ⟨w.heap.size, 0, none⟩ = some (.string c) := (hb.cell (p := ⟨w.heap.size, 0, none⟩) (by simp)).trans (by simp); have hg1 : w1.cell? ⟨w.heap.size, 1, none⟩ = some (.int .i64 gp) := (hb.cell (p := ⟨w.heap.size, 1, none⟩) (by simp)).trans (by simp); have hb1 : Below w.heap.size w w1 := hA.trans (hb.mono hA.size))
    | (go_at_call 11; refine (hR _ hb1).mono ?_; rintro e w2 ⟨rfl, k, rfl⟩)
    | (go_at_call 12; refine (hRP _).mono ?_; rintro e w3 ⟨rfl, rfl⟩))
  have hbW : Below w.heap.size w (w1.drewN k) := below_drewN hb1 k
  have gW0 : (w1.drewN k).cell? ⟨w.heap.size, 0, none⟩ = some (.string c) := hg0
  have gW1 : (w1.drewN k).cell? ⟨w.heap.size, 1, none⟩ = some (.int .i64 gp) := hg1
  generalize w1.drewN k = W at hbW gW0 gW1 ⊢
  have hbR : ∀ d os, Below w.heap.size w (grow (redrawn W d) os) := fun d os => hbW.trans ((below_regrown W d os).mono hbW.size)
  have k0 := cell_regrown gW0
  have k1 := cell_regrown gW1
  have cCh := fun d os => Calls.regrown_of (w := W) (hCh _ (hbR d os))
  have cGE := fun d os => Calls.regrown_of (w := W) (d := d) (os := os) (hGE _)
  have cCG := fun d os => Calls.regrown_of (w := W) (hCG _ (hbR d os))
  have cTx := fun d os => Calls.regrown_of (w := W) (hTx _ (hbR d os))
  have cPT := fun d os => Calls.regrown_of (w := W) (d := d) (os := os) (hPT _)
  clear hg0 hg1 hb HT hR hRP hCh hGE hCG hTx hPT gW0 gW1
  refine wp_region_quiet_below (by kernel_rfl) (by kernel_rfl) ?_
  repeat (quiet_step (first | exact cCh _ _ | exact cGE _ _ | exact cCG _ _ | exact cTx _ _ | exact cPT _ _))
  refine wpQuiet_nil ?_
  intro _ hw'
  obtain ⟨⟨dq, osq⟩, hw''⟩ := hw'
  subst hw''
  have hbE := hbR dq osq
  generalize grow (redrawn W dq) osq = V at hbE ⊢
  clear cCh cGE cCG cTx cPT k0 k1 hbR
  go_wp2_with (first
    | (go_at_call 17; refine (hIN _).mono ?_; rintro e w4 ⟨rfl, rfl⟩)
    | (go_at_call 18; refine (hNm _).mono ?_; rintro e w5 ⟨rfl, rfl⟩)
    | (go_at_call 8; refine (hCR _ hbE).mono ?_; rintro e w6 ⟨rfl, hb6⟩))
  go_ret
  exact ⟨by simp, hbE.trans (hb6.mono hbE.size)⟩
end Go.Proofs.YtmgjjmgponebcaaDoor
