/-
  What lot.parts and lot.Read answer: lot.parts over whatever world, lot.Read over every world that holds the sentinels ErrText, ErrName and ErrBound as the program lays them; condition: the text is shorter than 4,294,967,281 bytes.
-/
import Derived.Test.YtgdhfipbbijngaaGreatDoorEzM
import Derived.BigQuiet
import Derived.Shelf.RegionOpenPlain
namespace Go.Proofs.YtgdhfipbbijngaaGreatDoor
open Go.RowKit Go.Lib Go.Sort

/-- The world behind a result's cells are made. -/
abbrev madeL (w : World) : World := w.alloc (.cells #[.string ⟨#[]⟩, .string ⟨#[]⟩, .int .i64 0, .int .i64 0] 25)
theorem below_set4 {B n : Nat} {w W : World} (hb : Below B w W) (hn : B ≤ n) (a b c d : Value) : Below B w ((((W.setCell ⟨n, 0, none⟩ a).setCell ⟨n, 1, none⟩ b).setCell ⟨n, 2, none⟩ c).setCell ⟨n, 3, none⟩ d) :=
  (((hb.setCell (p := ⟨n, 0, none⟩) hn _).setCell (p := ⟨n, 1, none⟩) hn _).setCell (p := ⟨n, 2, none⟩) hn _).setCell (p := ⟨n, 3, none⟩) hn _
set_option maxRecDepth 100000 in
set_option maxHeartbeats 2000000 in
theorem lparts_few (s : ByteArray) (w : World) (hz : s.size < 4294967281) (h : three s.data.toList = false) :
    Calls Tryz.prog 49 #[.string s] w fun e w' => e = .returned (.tuple #[agL zeroL, .bool false]) ∧ Below w.heap.size w w' := by
  have hB : Below w.heap.size w (madeL w) := (Below.refl _ w).alloc (Nat.le_refl _) _
  have hp := splitN_few s (madeL w) hz h
  unfold agL zeroL madeL at *
  simp only at *
  have HP : Hid (Calls Tryz.prog 63 _ _ _) := hp
  have HB : Hid (Below _ _ _) := hB
  clear hp hB h hz
  go_enter Tryz.func49, Tryz.ntmps49
  go_wp2_with (go_at_call 63; refine HP.out.mono ?_; rintro e w1 ⟨n, m, o, hn, rfl, rfl⟩)
  refine bodyPost_ret (v := .tuple #[.agg #[.string ⟨#[]⟩, .string ⟨#[]⟩, .int .i64 0, .int .i64 0], .bool false]) (by simp [results, Tryz.results49, go_sem]) rfl ⟨rfl, ?_⟩
  exact ((Below.refl _ w).alloc (Nat.le_refl _) _).alloc (by simp) _
set_option maxRecDepth 100000 in
set_option maxHeartbeats 4000000 in
theorem lparts_four (s : ByteArray) (w : World) (hz : s.size < 4294967281) (h : three s.data.toList = true) :
    Calls Tryz.prog 49 #[.string s] w fun e w' => e = .returned (.tuple #[agL (lotOf s.data.toList), .bool (isNum 9 (wd2 s.data.toList) && isNum 9 (wd3 s.data.toList))]) ∧ Below w.heap.size w w' := by
  have hB : Below w.heap.size w (madeL w) := (Below.refl _ w).alloc (Nat.le_refl _) _
  have hp := splitN_four s (madeL w) hz h
  have hl0 : s.data.toList.length ≤ maxLen := by rw [size_len]; unfold maxLen; omega
  have q1 := cutB_le 32 s.data.toList
  have q2 := cutB_le 32 (cutB 32 s.data.toList)
  have q3 := cutA_le 32 (cutB 32 (cutB 32 s.data.toList))
  have q4 := cutB_le 32 (cutB 32 (cutB 32 s.data.toList))
  have h3 := fun w => numRead ⟨(wd2 s.data.toList).toArray⟩ 9 w (by decide) (by rw [mk_size]; unfold wd2; omega)
  have h4 := fun w => numRead ⟨(wd3 s.data.toList).toArray⟩ 9 w (by decide) (by rw [mk_size]; unfold wd3; omega)
  simp only at h3 h4
  unfold lotOf agL madeL at *
  simp only at *
  generalize (⟨(cutA 32 s.data.toList).toArray⟩ : ByteArray) = zA at *
  generalize (⟨(cutA 32 (cutB 32 s.data.toList)).toArray⟩ : ByteArray) = zB at *
  generalize numR 9 (wd2 s.data.toList) = n1 at *
  generalize numR 9 (wd3 s.data.toList) = n2 at *
  generalize isNum 9 (wd2 s.data.toList) = b1 at *
  generalize isNum 9 (wd3 s.data.toList) = b2 at *
  generalize (⟨(wd2 s.data.toList).toArray⟩ : ByteArray) = sA at *
  generalize (⟨(wd3 s.data.toList).toArray⟩ : ByteArray) = sC at *
  have HP : Hid (Calls Tryz.prog 63 _ _ _) := hp
  have HB : Hid (Below _ _ _) := hB
  clear hl0 q1 q2 q3 q4 hz h hp hB
  cases b1
  · go_enter Tryz.func49, Tryz.ntmps49
    go_wp2_with (first
      | (go_at_call 63; refine HP.out.mono ?_; rintro e w1 ⟨rfl, rfl⟩)
      | (go_at_call_of 64 (Value.string sA); refine (h3 _).mono ?_; rintro e w3 ⟨rfl, rfl⟩)
      | (go_at_call_of 64 (Value.string sC); refine (h4 _).mono ?_; rintro e w4 ⟨rfl, rfl⟩))
    have mixed : Tryz.prog.follows .mixedOrders = true := by kernel_rfl
    go_big_region_o
    all_goals go_wp2
    refine bodyPost_ret (v := .tuple #[.agg #[.string zA, .string zB, .int .i64 n1, .int .i64 n2], .bool _]) (by simp [results, Tryz.results49, go_sem]) rfl ⟨rfl, ?_⟩
    exact (((Below.refl _ w).alloc (Nat.le_refl _) _).alloc (by simp) _).drew
  · go_enter Tryz.func49, Tryz.ntmps49
    go_wp2_with (first
      | (go_at_call 63; refine HP.out.mono ?_; rintro e w1 ⟨rfl, rfl⟩)
      | (go_at_call_of 64 (Value.string sA); refine (h3 _).mono ?_; rintro e w3 ⟨rfl, rfl⟩)
      | (go_at_call_of 64 (Value.string sC); refine (h4 _).mono ?_; rintro e w4 ⟨rfl, rfl⟩))
    go_region_held3 (fun w' => w'.cell? ⟨w.heap.size + 1, 0, none⟩ = some (.string zA) ∧ w'.cell? ⟨w.heap.size + 1, 1, none⟩ = some (.string zB)) (go_keep) (fail)
    go_wp2
    refine bodyPost_ret (v := .tuple #[.agg #[.string zA, .string zB, .int .i64 n1, .int .i64 n2], .bool _]) (by simp [results, Tryz.results49, go_sem]) rfl ⟨rfl, ?_⟩
    exact (((Below.refl _ w).alloc (Nat.le_refl _) _).alloc (by simp) _).drew
/-- lot.parts. -/
theorem lparts_any (s : ByteArray) (w : World) (hz : s.size < 4294967281) :
    Calls Tryz.prog 49 #[.string s] w fun e w' => ∃ x, e = .returned (.tuple #[agL x, .bool (lotNum s.data.toList)]) ∧ (lotNum s.data.toList = true → x = lotOf s.data.toList) ∧ Below w.heap.size w w' := by
  cases h : three s.data.toList with
  | false =>
    have e1 : lotNum s.data.toList = false := by unfold lotNum; rw [h]; rfl
    rw [e1]
    exact (lparts_few s w hz h).mono fun e w' ⟨he, hb⟩ => ⟨_, he, (fun h => by cases h), hb⟩
  | true =>
    have e1 : lotNum s.data.toList = (isNum 9 (wd2 s.data.toList) && isNum 9 (wd3 s.data.toList)) := by unfold lotNum; rw [h]; rfl
    rw [e1]
    exact (lparts_four s w hz h).mono fun e w' ⟨he, hb⟩ => ⟨_, he, (fun _ => rfl), hb⟩
set_option maxRecDepth 100000 in
set_option maxHeartbeats 1000000 in
theorem lread_no (x : ByteArray) (w : World) (s : Nat → Addr) (hz : x.size < 4294967281) (hs : Three w s) (h : lotNum x.data.toList = false) :
    Calls Tryz.prog 36 #[.string x] w fun e w' => e = .returned (.tuple #[agL zeroL, err (s 0)]) ∧ Below w.heap.size w w' := by
  have hB : Below w.heap.size w (madeL w) := (Below.refl _ w).alloc (Nat.le_refl _) _
  have hp := lparts_any x (madeL w) hz
  rw [h] at hp
  clear h
  unfold agL zeroL madeL at *
  simp only at *
  have HP : Hid (Calls Tryz.prog 49 _ _ _) := hp
  have HB : Hid (Below _ _ _) := hB
  have hgl := cell_lt hs.text
  clear hp hB hz
  go_enter Tryz.func36, Tryz.ntmps36
  go_wp2_with (go_at_call 49; refine HP.out.mono ?_; rintro e w1 ⟨⟨xa, xc, xu, xk⟩, rfl, _, hb⟩; obtain ⟨hc, hf⟩ := bcell hb; have hbw : Below w.heap.size w w1 := HB.out.trans (hb.mono HB.out.size); have hz1 : w.heap.size < w1.heap.size := (by have := hb.size; simp at this; omega))
  have hT : ∀ o, (w1.alloc o).cell? ⟨1, 0, none⟩ = some (err (s 0)) := fun o => (hs.below (hbw.alloc hbw.size o)).text
  have hK : ∀ o a b c d, (((((w1.setCell ⟨w.heap.size, 0, none⟩ a).setCell ⟨w.heap.size, 1, none⟩ b).setCell ⟨w.heap.size, 2, none⟩ c).setCell ⟨w.heap.size, 3, none⟩ d).alloc o).drew.cell? ⟨1, 0, none⟩ = some (err (s 0)) := fun o a b c d => (hs.below ((below_set4 hbw (Nat.le_refl _) a b c d).alloc (below_set4 hbw (Nat.le_refl _) a b c d).size o)).text
  go_region_held3 (fun w' => w'.cell? ⟨1, 0, none⟩ = some (err (s 0))) (first | go_keep | exact hK _ _ _ _ _) (fail)
  go_wp2
  exact bodyPost_ret (v := .tuple #[.agg #[.string ⟨#[]⟩, .string ⟨#[]⟩, .int .i64 0, .int .i64 0], err (s 0)]) (by simp [results, Tryz.results36, go_sem, hc, hz1]) rfl ⟨rfl, ((below_set4 hbw (Nat.le_refl _) _ _ _ _).alloc (below_set4 hbw (Nat.le_refl _) _ _ _ _).size _).drew⟩
theorem lotOf_sizes (x : ByteArray) (hz : x.size < 4294967281) : (lotOf x.data.toList).1.size ≤ maxLen ∧ (lotOf x.data.toList).2.1.size ≤ maxLen := by
  have a := cutA_le 32 x.data.toList
  have b := cutB_le 32 x.data.toList
  have c := cutA_le 32 (cutB 32 x.data.toList)
  rw [size_len] at a b
  unfold lotOf maxLen
  simp only [mk_size]
  omega
set_option maxRecDepth 100000 in
set_option maxHeartbeats 1000000 in
theorem lread_yes (x : ByteArray) (w : World) (s : Nat → Addr) (hz : x.size < 4294967281) (hs : Three w s) (h : lotNum x.data.toList = true) (h0 : lotErr (lotOf x.data.toList) = 0) :
    Calls Tryz.prog 36 #[.string x] w fun e w' => e = .returned (.tuple #[agL (lotOf x.data.toList), .nilIface]) ∧ Below w.heap.size w w' := by
  have hB : Below w.heap.size w (madeL w) := (Below.refl _ w).alloc (Nat.le_refl _) _
  have hp := lparts_any x (madeL w) hz
  obtain ⟨z1, z2⟩ := lotOf_sizes x hz
  have hch := fun w1 (hb : Below w.heap.size w w1) => lcheck_any (lotOf x.data.toList) w1 s z1 z2 (hs.two.below hb)
  rw [h0, errP_zero] at hch
  rw [h] at hp
  clear h h0 z1 z2
  generalize lotOf x.data.toList = pp at *
  obtain ⟨a, c, u, k⟩ := pp
  have hp' := hp.mono (R' := fun e w' => e = .returned (.tuple #[agL (a, c, u, k), .bool true]) ∧ Below (madeL w).heap.size (madeL w) w') (fun e w' ⟨x, he, hx, hb⟩ => ⟨by rw [he, hx rfl], hb⟩)
  unfold agL madeL at *
  simp only at *
  have HP : Hid (Calls Tryz.prog 49 _ _ _) := hp'
  have HB : Hid (Below _ _ _) := hB
  clear hp hp' hB hz hs
  go_enter Tryz.func36, Tryz.ntmps36
  go_wp2_with (first
    | (go_at_call 49; refine HP.out.mono ?_; rintro e w1 ⟨rfl, hb⟩; obtain ⟨hc, hf⟩ := bcell hb; have hbw : Below w.heap.size w w1 := HB.out.trans (hb.mono HB.out.size); have hz1 : w.heap.size < w1.heap.size := (by have := hb.size; simp at this; omega))
    | (go_at_call 41; refine (hch _ (hbw.alloc hbw.size _)).mono ?_; rintro e w2 ⟨rfl, hb2⟩; obtain ⟨hc2, hf2⟩ := bcell hb2; have hbw2 : Below w.heap.size w w2 := (hbw.alloc hbw.size _).trans (hb2.mono (by simp; omega)); have hz2 : w1.heap.size < w2.heap.size := (by have := hb2.size; simp at this; omega)))
  obtain ⟨r0, r1, r2, r3⟩ := (((BoxL.new w zeroL _ rfl).below hb).below ((Below.refl _ _).alloc (Nat.le_refl _) _)).below hb2
  exact bodyPost_ret (v := .tuple #[.agg #[.string a, .string c, .int .i64 u, .int .i64 k], .nilIface]) (by simp [results, Tryz.results36, go_sem, r0, r1, r2, r3]) rfl ⟨rfl, below_set4 hbw2 (Nat.le_refl _) _ _ _ _⟩
set_option maxRecDepth 100000 in
set_option maxHeartbeats 1000000 in
theorem lread_err (x : ByteArray) (w : World) (s : Nat → Addr) (hz : x.size < 4294967281) (hs : Three w s) (h : lotNum x.data.toList = true) (h0 : lotErr (lotOf x.data.toList) ≠ 0) :
    Calls Tryz.prog 36 #[.string x] w fun e w' => e = .returned (.tuple #[agL zeroL, errP s (lotErr (lotOf x.data.toList))]) ∧ Below w.heap.size w w' := by
  have hB : Below w.heap.size w (madeL w) := (Below.refl _ w).alloc (Nat.le_refl _) _
  have hp := lparts_any x (madeL w) hz
  obtain ⟨z1, z2⟩ := lotOf_sizes x hz
  have hch := fun w1 (hb : Below w.heap.size w w1) => lcheck_any (lotOf x.data.toList) w1 s z1 z2 (hs.two.below hb)
  rw [errP_pos s h0] at hch ⊢
  rw [h] at hp
  clear h h0 z1 z2
  generalize s (lotErr (lotOf x.data.toList) - 1) = ad at *
  generalize lotOf x.data.toList = pp at *
  obtain ⟨a, c, u, k⟩ := pp
  have hp' := hp.mono (R' := fun e w' => e = .returned (.tuple #[agL (a, c, u, k), .bool true]) ∧ Below (madeL w).heap.size (madeL w) w') (fun e w' ⟨x, he, hx, hb⟩ => ⟨by rw [he, hx rfl], hb⟩)
  unfold agL madeL zeroL at *
  simp only at *
  have HP : Hid (Calls Tryz.prog 49 _ _ _) := hp'
  have HB : Hid (Below _ _ _) := hB
  clear hp hp' hB hz hs
  go_enter Tryz.func36, Tryz.ntmps36
  go_wp2_with (first
    | (go_at_call 49; refine HP.out.mono ?_; rintro e w1 ⟨rfl, hb⟩; obtain ⟨hc, hf⟩ := bcell hb; have hbw : Below w.heap.size w w1 := HB.out.trans (hb.mono HB.out.size); have hz1 : w.heap.size < w1.heap.size := (by have := hb.size; simp at this; omega))
    | (go_at_call 41; refine (hch _ (hbw.alloc hbw.size _)).mono ?_; rintro e w2 ⟨rfl, hb2⟩; obtain ⟨hc2, hf2⟩ := bcell hb2; have hbw2 : Below w.heap.size w w2 := (hbw.alloc hbw.size _).trans (hb2.mono (by simp; omega)); have hz2 : w1.heap.size < w2.heap.size := (by have := hb2.size; simp at this; omega)))
  obtain ⟨r0, r1, r2, r3⟩ := (((BoxL.new w zeroL _ rfl).below hb).below ((Below.refl _ _).alloc (Nat.le_refl _) _)).below hb2
  exact bodyPost_ret (v := .tuple #[.agg #[.string ⟨#[]⟩, .string ⟨#[]⟩, .int .i64 0, .int .i64 0], err ad]) (by simp [results, Tryz.results36, go_sem, r0, r1, r2, r3]) rfl ⟨rfl, below_set4 hbw2 (Nat.le_refl _) _ _ _ _⟩
/-- lot.Read. -/
theorem lread_any (x : ByteArray) (w : World) (s : Nat → Addr) (hz : x.size < 4294967281) (hs : Three w s) :
    Calls Tryz.prog 36 #[.string x] w fun e w' => e = .returned (.tuple #[agL (readL x.data.toList).1, errP s (readL x.data.toList).2]) ∧ Below w.heap.size w w' := by
  cases h : lotNum x.data.toList with
  | false =>
    have e : readL x.data.toList = (zeroL, 1) := by unfold readL; rw [h]; rfl
    rw [e]
    exact lread_no x w s hz hs h
  | true =>
    by_cases h0 : lotErr (lotOf x.data.toList) = 0
    · have e : readL x.data.toList = (lotOf x.data.toList, 0) := by unfold readL; rw [if_pos h, if_pos h0]
      rw [e]
      exact lread_yes x w s hz hs h h0
    · have e : readL x.data.toList = (zeroL, lotErr (lotOf x.data.toList)) := by unfold readL; rw [if_pos h, if_neg h0]
      rw [e]
      exact lread_err x w s hz hs h h0
end Go.Proofs.YtgdhfipbbijngaaGreatDoor
