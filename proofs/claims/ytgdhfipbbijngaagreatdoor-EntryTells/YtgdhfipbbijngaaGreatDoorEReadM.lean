/-
  What readPieces answers of an entry of pieces that moves; over every world that holds the sentinels as the program lays them; condition: the text is shorter than 4,294,967,281 bytes.
-/
import Derived.Test.YtgdhfipbbijngaaGreatDoorEReadA
import Derived.RegionTactic
namespace Go.Proofs.YtgdhfipbbijngaaGreatDoor
open Go.RowKit Go.Lib Go.Sort

/-- The place that an entry is from is stored. -/
theorem set_from {w : World} {q : Nat} {k : ByteArray} {g : Gd} {l : Lo} {p t : Pl} {n : Int} (h : BlkE w q (k, g, l, p, t, n)) (x : Pl) : BlkE (((w.setCell ⟨q, 7, none⟩ (.string x.1)).setCell ⟨q, 8, none⟩ (.int .i64 x.2.1)).setCell ⟨q, 9, none⟩ (.int .i64 x.2.2)) q (k, g, l, x, t, n) := by
  have h1 := set_cell (cs' := #[.string k, .string g.1, .int .i64 g.2, .string l.1, .string l.2.1, .int .i64 l.2.2.1, .int .i64 l.2.2.2, .string x.1, .int .i64 p.2.1, .int .i64 p.2.2, .string t.1, .int .i64 t.2.1, .int .i64 t.2.2, .int .i64 n]) h 7 (.string x.1) rfl
  have h2 := set_cell (cs' := #[.string k, .string g.1, .int .i64 g.2, .string l.1, .string l.2.1, .int .i64 l.2.2.1, .int .i64 l.2.2.2, .string x.1, .int .i64 x.2.1, .int .i64 p.2.2, .string t.1, .int .i64 t.2.1, .int .i64 t.2.2, .int .i64 n]) h1 8 (.int .i64 x.2.1) rfl
  exact set_cell (cs' := #[.string k, .string g.1, .int .i64 g.2, .string l.1, .string l.2.1, .int .i64 l.2.2.1, .int .i64 l.2.2.2, .string x.1, .int .i64 x.2.1, .int .i64 x.2.2, .string t.1, .int .i64 t.2.1, .int .i64 t.2.2, .int .i64 n]) h2 9 (.int .i64 x.2.2) rfl
set_option maxRecDepth 100000 in
set_option maxHeartbeats 4000000 in
theorem rp_move_no (k x : ByteArray) (w : World) (s : Nat → Addr) (hz : x.size < 4294967281) (hs : Es w s) (hk : k = kMove) (h : num3 x.data.toList = false) :
    Calls Tryz.prog 37 #[.string k, .string x] w fun e w' => e = .returned (.tuple #[agE zeroE, err (s 0)]) ∧ Below w.heap.size w w' := by
  have hPl := fun w1 (h0 : w1.cell? ⟨w.heap.size + 1, 0, none⟩ = some (.string k)) => places_move (w.heap.size + 1) w1 (by rw [← hk]; exact h0)
  have hp := fun w1 => wn3_no x w1 hz h
  have hT := fun w1 (hb : Below w.heap.size w w1) => (hs.below hb).three.text
  subst hk
  clear hz hs h
  unfold agE zeroE zeroG zeroL zeroP at *
  simp only at *
  have hB1 : Below w.heap.size w (((w.alloc (.cells #[.string ⟨#[]⟩, .string ⟨#[]⟩, .int .i64 0, .string ⟨#[]⟩, .string ⟨#[]⟩, .int .i64 0, .int .i64 0, .string ⟨#[]⟩, .int .i64 0, .int .i64 0, .string ⟨#[]⟩, .int .i64 0, .int .i64 0, .int .i64 0] 29)).alloc (.cells #[.string kMove, .string ⟨#[]⟩, .int .i64 0, .string ⟨#[]⟩, .string ⟨#[]⟩, .int .i64 0, .int .i64 0, .string ⟨#[]⟩, .int .i64 0, .int .i64 0, .string ⟨#[]⟩, .int .i64 0, .int .i64 0, .int .i64 0] 29)).alloc (.cells #[.pointer (some ⟨w.heap.size + 1, 7, none⟩), .pointer (some ⟨w.heap.size + 1, 10, none⟩)] 77)) := by
    repeat (first | exact Below.refl _ _ | assumption | (refine Below.setCell ?_ (by (try simp); (try omega)) _) | (refine Below.alloc ?_ (by (try simp); (try omega)) _) | (refine Below.drew ?_))
  have hTo := fun o => hT _ ((hB1.alloc hB1.size o).drew)
  have HP : Hid (∀ w1, Calls Tryz.prog 48 _ _ _) := hp
  clear hp hT
  go_enter Tryz.func37, Tryz.ntmps37
  go_wp2_with (first
    | (go_at_call 43; refine (hPl _ (by simp)).mono ?_; rintro e w1 ⟨rfl, rfl⟩)
    | (go_at_call 48; refine (HP.out _).mono ?_; rintro e w2 ⟨⟨v, n, rfl⟩, o, rfl⟩; have hT2 := hTo o))
  go_region
  go_wp2
  refine bodyPost_ret (v := .tuple #[.agg #[.string ⟨#[]⟩, .string ⟨#[]⟩, .int .i64 0, .string ⟨#[]⟩, .string ⟨#[]⟩, .int .i64 0, .int .i64 0, .string ⟨#[]⟩, .int .i64 0, .int .i64 0, .string ⟨#[]⟩, .int .i64 0, .int .i64 0, .int .i64 0], err (s 0)]) (by simp [results, Tryz.results37, go_sem]) rfl ⟨rfl, ?_⟩
  repeat (first | exact Below.refl _ _ | assumption | (refine Below.setCell ?_ (by (try simp); (try omega)) _) | (refine Below.alloc ?_ (by (try simp); (try omega)) _) | (refine Below.drew ?_))
set_option maxRecDepth 100000 in
set_option maxHeartbeats 8000000 in
theorem rp_move_err1 (k x : ByteArray) (w : World) (s : Nat → Addr) (hz : x.size < 4294967281) (hs : Es w s) (hk : k = kMove) (h : three x.data.toList = true) (h1 : isNum 13 (wd3 x.data.toList) = true) (h2 : (readP (cutA 32 (cutB 32 x.data.toList))).2 ≠ 0) :
    Calls Tryz.prog 37 #[.string k, .string x] w fun e w' => e = .returned (.tuple #[agE zeroE, errP s (readP (cutA 32 (cutB 32 x.data.toList))).2]) ∧ Below w.heap.size w w' := by
  have hPl := fun w1 (h0 : w1.cell? ⟨w.heap.size + 1, 0, none⟩ = some (.string k)) => places_move (w.heap.size + 1) w1 (by rw [← hk]; exact h0)
  have hp := fun w1 => wn3_yes x w1 hz h
  rw [h1] at hp
  have hl0 : x.data.toList.length < 4294967281 := by rw [size_len]; exact hz
  have q1 := cutB_le 32 x.data.toList
  have q2 := cutA_le 32 (cutB 32 x.data.toList)
  have q3 := cutB_le 32 (cutB 32 x.data.toList)
  have q4 := cutA_le 32 (cutB 32 (cutB 32 x.data.toList))
  have hR := fun w1 (hb : Below w.heap.size w w1) => pread_any ⟨(cutA 32 (cutB 32 x.data.toList)).toArray⟩ w1 s (by rw [mk_size]; unfold maxLen; omega) (hs.three.below hb)
  simp only at hR
  rw [errP_pos s h2] at hR ⊢
  generalize s ((readP (cutA 32 (cutB 32 x.data.toList))).2 - 1) = ad at *
  generalize (readP (cutA 32 (cutB 32 x.data.toList))).1 = pp at *
  obtain ⟨pa, pr, pb⟩ := pp
  unfold agP at *
  clear hl0 q1 q2 q3 q4 h2
  subst hk
  clear hz hs h h1
  unfold agE zeroE zeroG zeroL zeroP at *
  simp only at *
  generalize numR 13 (wd3 x.data.toList) = nn at *
  generalize (⟨(cutA 32 x.data.toList).toArray⟩ : ByteArray) = z0 at *
  generalize (⟨(cutA 32 (cutB 32 x.data.toList)).toArray⟩ : ByteArray) = z1 at *
  generalize (⟨(wd2 x.data.toList).toArray⟩ : ByteArray) = z2 at *
  generalize (⟨(wd3 x.data.toList).toArray⟩ : ByteArray) = z3 at *
  have hB2 : Below w.heap.size w ((((w.alloc (.cells #[.string ⟨#[]⟩, .string ⟨#[]⟩, .int .i64 0, .string ⟨#[]⟩, .string ⟨#[]⟩, .int .i64 0, .int .i64 0, .string ⟨#[]⟩, .int .i64 0, .int .i64 0, .string ⟨#[]⟩, .int .i64 0, .int .i64 0, .int .i64 0] 29)).alloc (.cells #[.string kMove, .string ⟨#[]⟩, .int .i64 0, .string z0, .string ⟨#[]⟩, .int .i64 0, .int .i64 0, .string ⟨#[]⟩, .int .i64 0, .int .i64 0, .string ⟨#[]⟩, .int .i64 0, .int .i64 0, .int .i64 nn] 29)).alloc (.cells #[.pointer (some ⟨w.heap.size + 1, 7, none⟩), .pointer (some ⟨w.heap.size + 1, 10, none⟩)] 77)).alloc (.cells #[.string z0, .string z1, .string z2, .string z3] 9)).drew := by
    repeat (first | exact Below.refl _ _ | assumption | (refine Below.setCell ?_ (by (try simp); (try omega)) _) | (refine Below.alloc ?_ (by (try simp); (try omega)) _) | (refine Below.drew ?_))
  have hR2 := hR _ hB2
  have HP : Hid (∀ w1, Calls Tryz.prog 48 _ _ _) := hp
  have HR : Hid (Calls Tryz.prog 50 _ _ _) := hR2
  have hRE : BlkE ((((w.alloc (.cells #[.string ⟨#[]⟩, .string ⟨#[]⟩, .int .i64 0, .string ⟨#[]⟩, .string ⟨#[]⟩, .int .i64 0, .int .i64 0, .string ⟨#[]⟩, .int .i64 0, .int .i64 0, .string ⟨#[]⟩, .int .i64 0, .int .i64 0, .int .i64 0] 29)).alloc (.cells #[.string kMove, .string ⟨#[]⟩, .int .i64 0, .string z0, .string ⟨#[]⟩, .int .i64 0, .int .i64 0, .string ⟨#[]⟩, .int .i64 0, .int .i64 0, .string ⟨#[]⟩, .int .i64 0, .int .i64 0, .int .i64 nn] 29)).alloc (.cells #[.pointer (some ⟨w.heap.size + 1, 7, none⟩), .pointer (some ⟨w.heap.size + 1, 10, none⟩)] 77)).alloc (.cells #[.string z0, .string z1, .string z2, .string z3] 9)).drew w.heap.size zeroE := (((BlkE.new w zeroE).below ((Below.refl _ _).alloc (Nat.le_refl _) _)).below ((Below.refl _ _).alloc (Nat.le_refl _) _)).below (((Below.refl _ _).alloc (Nat.le_refl _) _).drew)
  have hEE : BlkE ((((w.alloc (.cells #[.string ⟨#[]⟩, .string ⟨#[]⟩, .int .i64 0, .string ⟨#[]⟩, .string ⟨#[]⟩, .int .i64 0, .int .i64 0, .string ⟨#[]⟩, .int .i64 0, .int .i64 0, .string ⟨#[]⟩, .int .i64 0, .int .i64 0, .int .i64 0] 29)).alloc (.cells #[.string kMove, .string ⟨#[]⟩, .int .i64 0, .string z0, .string ⟨#[]⟩, .int .i64 0, .int .i64 0, .string ⟨#[]⟩, .int .i64 0, .int .i64 0, .string ⟨#[]⟩, .int .i64 0, .int .i64 0, .int .i64 nn] 29)).alloc (.cells #[.pointer (some ⟨w.heap.size + 1, 7, none⟩), .pointer (some ⟨w.heap.size + 1, 10, none⟩)] 77)).alloc (.cells #[.string z0, .string z1, .string z2, .string z3] 9)).drew (w.heap.size + 1) (kMove, zeroG, (z0, ⟨#[]⟩, 0, 0), zeroP, zeroP, nn) := by
    have hh := BlkE.new (w.alloc (celE zeroE)) (kMove, zeroG, (z0, ⟨#[]⟩, 0, 0), zeroP, zeroP, nn)
    have e1 : (w.alloc (celE zeroE)).heap.size = w.heap.size + 1 := by simp
    rw [e1] at hh
    exact (hh.below ((Below.refl _ _).alloc (Nat.le_refl _) _)).below (((Below.refl _ _).alloc (Nat.le_refl _) _).drew)
  have hq1 : Ptr2 ((((w.alloc (.cells #[.string ⟨#[]⟩, .string ⟨#[]⟩, .int .i64 0, .string ⟨#[]⟩, .string ⟨#[]⟩, .int .i64 0, .int .i64 0, .string ⟨#[]⟩, .int .i64 0, .int .i64 0, .string ⟨#[]⟩, .int .i64 0, .int .i64 0, .int .i64 0] 29)).alloc (.cells #[.string kMove, .string ⟨#[]⟩, .int .i64 0, .string z0, .string ⟨#[]⟩, .int .i64 0, .int .i64 0, .string ⟨#[]⟩, .int .i64 0, .int .i64 0, .string ⟨#[]⟩, .int .i64 0, .int .i64 0, .int .i64 nn] 29)).alloc (.cells #[.pointer (some ⟨w.heap.size + 1, 7, none⟩), .pointer (some ⟨w.heap.size + 1, 10, none⟩)] 77)).alloc (.cells #[.string z0, .string z1, .string z2, .string z3] 9)).drew (w.heap.size + 1 + 1) (w.heap.size + 1) 7 10 := by
    constructor <;> (rw [(((Below.refl _ _).alloc (Nat.le_refl _) _).drew).cell (p := ⟨w.heap.size + 1 + 1, _, none⟩) (by simp), World.cell?_alloc_at _ _ _ _ (by simp)]; rfl)
  have hq2 : ((((w.alloc (.cells #[.string ⟨#[]⟩, .string ⟨#[]⟩, .int .i64 0, .string ⟨#[]⟩, .string ⟨#[]⟩, .int .i64 0, .int .i64 0, .string ⟨#[]⟩, .int .i64 0, .int .i64 0, .string ⟨#[]⟩, .int .i64 0, .int .i64 0, .int .i64 0] 29)).alloc (.cells #[.string kMove, .string ⟨#[]⟩, .int .i64 0, .string z0, .string ⟨#[]⟩, .int .i64 0, .int .i64 0, .string ⟨#[]⟩, .int .i64 0, .int .i64 0, .string ⟨#[]⟩, .int .i64 0, .int .i64 0, .int .i64 nn] 29)).alloc (.cells #[.pointer (some ⟨w.heap.size + 1, 7, none⟩), .pointer (some ⟨w.heap.size + 1, 10, none⟩)] 77)).alloc (.cells #[.string z0, .string z1, .string z2, .string z3] 9)).drew.cell? ⟨w.heap.size + 1 + 1 + 1, 1, none⟩ = some (.string z1) ∧ ((((w.alloc (.cells #[.string ⟨#[]⟩, .string ⟨#[]⟩, .int .i64 0, .string ⟨#[]⟩, .string ⟨#[]⟩, .int .i64 0, .int .i64 0, .string ⟨#[]⟩, .int .i64 0, .int .i64 0, .string ⟨#[]⟩, .int .i64 0, .int .i64 0, .int .i64 0] 29)).alloc (.cells #[.string kMove, .string ⟨#[]⟩, .int .i64 0, .string z0, .string ⟨#[]⟩, .int .i64 0, .int .i64 0, .string ⟨#[]⟩, .int .i64 0, .int .i64 0, .string ⟨#[]⟩, .int .i64 0, .int .i64 0, .int .i64 nn] 29)).alloc (.cells #[.pointer (some ⟨w.heap.size + 1, 7, none⟩), .pointer (some ⟨w.heap.size + 1, 10, none⟩)] 77)).alloc (.cells #[.string z0, .string z1, .string z2, .string z3] 9)).drew.cell? ⟨w.heap.size + 1 + 1 + 1, 2, none⟩ = some (.string z2) := by
    constructor <;> (rw [World.cell?_drew, World.cell?_alloc_at _ _ _ _ (by simp)]; rfl)
  have HB2 : Hid (Below _ _ _) := hB2
  have HRE : Hid (BlkE _ _ _) := hRE
  have HEE : Hid (BlkE _ _ _) := hEE
  clear hp hR hR2 hB2 hRE hEE
  go_enter Tryz.func37, Tryz.ntmps37
  go_wp2_with (first | (go_at_call 43; refine (hPl _ (by simp)).mono ?_; rintro e w1 ⟨rfl, rfl⟩) | (go_at_call 48; refine (HP.out _).mono ?_; rintro e w2 ⟨rfl, rfl⟩))
  clear HP hPl
  generalize ((((w.alloc (.cells #[.string ⟨#[]⟩, .string ⟨#[]⟩, .int .i64 0, .string ⟨#[]⟩, .string ⟨#[]⟩, .int .i64 0, .int .i64 0, .string ⟨#[]⟩, .int .i64 0, .int .i64 0, .string ⟨#[]⟩, .int .i64 0, .int .i64 0, .int .i64 0] 29)).alloc (.cells #[.string kMove, .string ⟨#[]⟩, .int .i64 0, .string z0, .string ⟨#[]⟩, .int .i64 0, .int .i64 0, .string ⟨#[]⟩, .int .i64 0, .int .i64 0, .string ⟨#[]⟩, .int .i64 0, .int .i64 0, .int .i64 nn] 29)).alloc (.cells #[.pointer (some ⟨w.heap.size + 1, 7, none⟩), .pointer (some ⟨w.heap.size + 1, 10, none⟩)] 77)).alloc (.cells #[.string z0, .string z1, .string z2, .string z3] 9)).drew = W at *
  have p1 := hq1.1
  have p2 := hq1.2
  have p3 := hq2.1
  refine wp_loop_rounds 3 ?_
  rw [rounds_succ]
  go_wp2_with (first | (go_at_call_of 50 (Value.string z1); refine HR.out.mono ?_; rintro e w4 ⟨rfl, hb4⟩; have hbw := HB2.out.trans (hb4.mono HB2.out.size); have hE4 := HEE.out.below hb4; have hR4 := HRE.out.below hb4; have hz4 := hE4.lt; have hz5 := hR4.lt; have hfR := hR4.frozen; have hfE := hE4.frozen; have p4 := (hb4.cell (p := ⟨w.heap.size + 1 + 1, 1, none⟩) (cell_lt hq1.2)).trans hq1.2; have p5 := (hb4.cell (p := ⟨w.heap.size + 1 + 1 + 1, 2, none⟩) (cell_lt hq2.2)).trans hq2.2; obtain ⟨r0, r1, r2, r3, r4, r5, r6, r7, r8, r9, r10, r11, r12, r13⟩ := hR4.at; obtain ⟨c0, c1, c2, c3, c4, c5, c6, c7, c8, c9, c10, c11, c12, c13⟩ := hE4.at; unfold zeroE zeroG zeroL zeroP at r0 r1 r2 r3 r4 r5 r6 r7 r8 r9 r10 r11 r12 r13; unfold zeroG zeroP at c0 c1 c2 c3 c4 c5 c6 c7 c8 c9 c10 c11 c12 c13; simp only at r0 r1 r2 r3 r4 r5 r6 r7 r8 r9 r10 r11 r12 r13 c0 c1 c2 c3 c4 c5 c6 c7 c8 c9 c10 c11 c12 c13; clear hb4 HR p1 p2 p3))
  have hFF : BlkE (((((((((((((((((w4.setCell ⟨w.heap.size + 1, 7, none⟩ (.string pa)).setCell ⟨w.heap.size + 1, 8, none⟩ (.int .i64 pr)).setCell ⟨w.heap.size + 1, 9, none⟩ (.int .i64 pb)).setCell ⟨w.heap.size, 0, none⟩ (.string ⟨#[]⟩)).setCell ⟨w.heap.size, 1, none⟩ (.string ⟨#[]⟩)).setCell ⟨w.heap.size, 2, none⟩ (.int .i64 0)).setCell ⟨w.heap.size, 3, none⟩ (.string ⟨#[]⟩)).setCell ⟨w.heap.size, 4, none⟩ (.string ⟨#[]⟩)).setCell ⟨w.heap.size, 5, none⟩ (.int .i64 0)).setCell ⟨w.heap.size, 6, none⟩ (.int .i64 0)).setCell ⟨w.heap.size, 7, none⟩ (.string ⟨#[]⟩)).setCell ⟨w.heap.size, 8, none⟩ (.int .i64 0)).setCell ⟨w.heap.size, 9, none⟩ (.int .i64 0)).setCell ⟨w.heap.size, 10, none⟩ (.string ⟨#[]⟩)).setCell ⟨w.heap.size, 11, none⟩ (.int .i64 0)).setCell ⟨w.heap.size, 12, none⟩ (.int .i64 0)).setCell ⟨w.heap.size, 13, none⟩ (.int .i64 0)) w.heap.size (⟨#[]⟩, (⟨#[]⟩, 0), (⟨#[]⟩, ⟨#[]⟩, 0, 0), (⟨#[]⟩, 0, 0), (⟨#[]⟩, 0, 0), 0) := BlkE.setE (set3_other hR4 (w.heap.size + 1) 7 8 9 _ _ _ (by omega)) (⟨#[]⟩, (⟨#[]⟩, 0), (⟨#[]⟩, ⟨#[]⟩, 0, 0), (⟨#[]⟩, 0, 0), (⟨#[]⟩, 0, 0), 0)
  have hBF : Below w.heap.size w (((((((((((((((((w4.setCell ⟨w.heap.size + 1, 7, none⟩ (.string pa)).setCell ⟨w.heap.size + 1, 8, none⟩ (.int .i64 pr)).setCell ⟨w.heap.size + 1, 9, none⟩ (.int .i64 pb)).setCell ⟨w.heap.size, 0, none⟩ (.string ⟨#[]⟩)).setCell ⟨w.heap.size, 1, none⟩ (.string ⟨#[]⟩)).setCell ⟨w.heap.size, 2, none⟩ (.int .i64 0)).setCell ⟨w.heap.size, 3, none⟩ (.string ⟨#[]⟩)).setCell ⟨w.heap.size, 4, none⟩ (.string ⟨#[]⟩)).setCell ⟨w.heap.size, 5, none⟩ (.int .i64 0)).setCell ⟨w.heap.size, 6, none⟩ (.int .i64 0)).setCell ⟨w.heap.size, 7, none⟩ (.string ⟨#[]⟩)).setCell ⟨w.heap.size, 8, none⟩ (.int .i64 0)).setCell ⟨w.heap.size, 9, none⟩ (.int .i64 0)).setCell ⟨w.heap.size, 10, none⟩ (.string ⟨#[]⟩)).setCell ⟨w.heap.size, 11, none⟩ (.int .i64 0)).setCell ⟨w.heap.size, 12, none⟩ (.int .i64 0)).setCell ⟨w.heap.size, 13, none⟩ (.int .i64 0)) := below_setE (((hbw.setCell (p := ⟨w.heap.size + 1, 7, none⟩) (by simp) _).setCell (p := ⟨w.heap.size + 1, 8, none⟩) (by simp) _).setCell (p := ⟨w.heap.size + 1, 9, none⟩) (by simp) _) (Nat.le_refl _) (⟨#[]⟩, (⟨#[]⟩, 0), (⟨#[]⟩, ⟨#[]⟩, 0, 0), (⟨#[]⟩, 0, 0), (⟨#[]⟩, 0, 0), 0)
  generalize (((((((((((((((((w4.setCell ⟨w.heap.size + 1, 7, none⟩ (.string pa)).setCell ⟨w.heap.size + 1, 8, none⟩ (.int .i64 pr)).setCell ⟨w.heap.size + 1, 9, none⟩ (.int .i64 pb)).setCell ⟨w.heap.size, 0, none⟩ (.string ⟨#[]⟩)).setCell ⟨w.heap.size, 1, none⟩ (.string ⟨#[]⟩)).setCell ⟨w.heap.size, 2, none⟩ (.int .i64 0)).setCell ⟨w.heap.size, 3, none⟩ (.string ⟨#[]⟩)).setCell ⟨w.heap.size, 4, none⟩ (.string ⟨#[]⟩)).setCell ⟨w.heap.size, 5, none⟩ (.int .i64 0)).setCell ⟨w.heap.size, 6, none⟩ (.int .i64 0)).setCell ⟨w.heap.size, 7, none⟩ (.string ⟨#[]⟩)).setCell ⟨w.heap.size, 8, none⟩ (.int .i64 0)).setCell ⟨w.heap.size, 9, none⟩ (.int .i64 0)).setCell ⟨w.heap.size, 10, none⟩ (.string ⟨#[]⟩)).setCell ⟨w.heap.size, 11, none⟩ (.int .i64 0)).setCell ⟨w.heap.size, 12, none⟩ (.int .i64 0)).setCell ⟨w.heap.size, 13, none⟩ (.int .i64 0)) = WF at *
  obtain ⟨f0, f1, f2, f3, f4, f5, f6, f7, f8, f9, f10, f11, f12, f13⟩ := hFF.at
  simp only at f0 f1 f2 f3 f4 f5 f6 f7 f8 f9 f10 f11 f12 f13
  have hzF := hFF.lt
  exact bodyPost_ret (v := .tuple #[.agg #[.string ⟨#[]⟩, .string ⟨#[]⟩, .int .i64 0, .string ⟨#[]⟩, .string ⟨#[]⟩, .int .i64 0, .int .i64 0, .string ⟨#[]⟩, .int .i64 0, .int .i64 0, .string ⟨#[]⟩, .int .i64 0, .int .i64 0, .int .i64 0], err ad]) (by simp [results, Tryz.results37, go_sem, f0, f1, f2, f3, f4, f5, f6, f7, f8, f9, f10, f11, f12, f13]) rfl ⟨rfl, hBF⟩
set_option maxRecDepth 100000 in
set_option maxHeartbeats 8000000 in
theorem rp_move_err2 (k x : ByteArray) (w : World) (s : Nat → Addr) (hz : x.size < 4294967281) (hs : Es w s) (hk : k = kMove) (h : three x.data.toList = true) (h1 : isNum 13 (wd3 x.data.toList) = true) (h2 : (readP (cutA 32 (cutB 32 x.data.toList))).2 = 0) (h3 : (readP (wd2 x.data.toList)).2 ≠ 0) :
    Calls Tryz.prog 37 #[.string k, .string x] w fun e w' => e = .returned (.tuple #[agE zeroE, errP s (readP (wd2 x.data.toList)).2]) ∧ Below w.heap.size w w' := by
  have hPl := fun w1 (h0 : w1.cell? ⟨w.heap.size + 1, 0, none⟩ = some (.string k)) => places_move (w.heap.size + 1) w1 (by rw [← hk]; exact h0)
  have hp := fun w1 => wn3_yes x w1 hz h
  rw [h1] at hp
  have hl0 : x.data.toList.length < 4294967281 := by rw [size_len]; exact hz
  have q1 := cutB_le 32 x.data.toList
  have q2 := cutA_le 32 (cutB 32 x.data.toList)
  have q3 := cutB_le 32 (cutB 32 x.data.toList)
  have q4 := cutA_le 32 (cutB 32 (cutB 32 x.data.toList))
  have hR := fun w1 (hb : Below w.heap.size w w1) => pread_any ⟨(cutA 32 (cutB 32 x.data.toList)).toArray⟩ w1 s (by rw [mk_size]; unfold maxLen; omega) (hs.three.below hb)
  have hR' := fun w1 (hb : Below w.heap.size w w1) => pread_any ⟨(wd2 x.data.toList).toArray⟩ w1 s (by rw [mk_size]; unfold wd2 maxLen; omega) (hs.three.below hb)
  simp only at hR hR'
  rw [h2, errP_zero] at hR
  rw [errP_pos s h3] at hR' ⊢
  generalize s ((readP (wd2 x.data.toList)).2 - 1) = ad at *
  generalize (readP (cutA 32 (cutB 32 x.data.toList))).1 = pp at *
  obtain ⟨pa, pr, pb⟩ := pp
  generalize (readP (wd2 x.data.toList)).1 = pt at *
  obtain ⟨ta, tr, tb⟩ := pt
  unfold agP at *
  clear hl0 q1 q2 q3 q4 h2 h3
  subst hk
  clear hz hs h h1
  unfold agE zeroE zeroG zeroL zeroP at *
  simp only at *
  generalize numR 13 (wd3 x.data.toList) = nn at *
  generalize (⟨(cutA 32 x.data.toList).toArray⟩ : ByteArray) = z0 at *
  generalize (⟨(cutA 32 (cutB 32 x.data.toList)).toArray⟩ : ByteArray) = z1 at *
  generalize (⟨(wd2 x.data.toList).toArray⟩ : ByteArray) = z2 at *
  generalize (⟨(wd3 x.data.toList).toArray⟩ : ByteArray) = z3 at *
  have hB2 : Below w.heap.size w ((((w.alloc (.cells #[.string ⟨#[]⟩, .string ⟨#[]⟩, .int .i64 0, .string ⟨#[]⟩, .string ⟨#[]⟩, .int .i64 0, .int .i64 0, .string ⟨#[]⟩, .int .i64 0, .int .i64 0, .string ⟨#[]⟩, .int .i64 0, .int .i64 0, .int .i64 0] 29)).alloc (.cells #[.string kMove, .string ⟨#[]⟩, .int .i64 0, .string z0, .string ⟨#[]⟩, .int .i64 0, .int .i64 0, .string ⟨#[]⟩, .int .i64 0, .int .i64 0, .string ⟨#[]⟩, .int .i64 0, .int .i64 0, .int .i64 nn] 29)).alloc (.cells #[.pointer (some ⟨w.heap.size + 1, 7, none⟩), .pointer (some ⟨w.heap.size + 1, 10, none⟩)] 77)).alloc (.cells #[.string z0, .string z1, .string z2, .string z3] 9)).drew := by
    repeat (first | exact Below.refl _ _ | assumption | (refine Below.setCell ?_ (by (try simp); (try omega)) _) | (refine Below.alloc ?_ (by (try simp); (try omega)) _) | (refine Below.drew ?_))
  have hR2 := hR _ hB2
  have HP : Hid (∀ w1, Calls Tryz.prog 48 _ _ _) := hp
  have HR : Hid (Calls Tryz.prog 50 _ _ _) := hR2
  have hRE : BlkE ((((w.alloc (.cells #[.string ⟨#[]⟩, .string ⟨#[]⟩, .int .i64 0, .string ⟨#[]⟩, .string ⟨#[]⟩, .int .i64 0, .int .i64 0, .string ⟨#[]⟩, .int .i64 0, .int .i64 0, .string ⟨#[]⟩, .int .i64 0, .int .i64 0, .int .i64 0] 29)).alloc (.cells #[.string kMove, .string ⟨#[]⟩, .int .i64 0, .string z0, .string ⟨#[]⟩, .int .i64 0, .int .i64 0, .string ⟨#[]⟩, .int .i64 0, .int .i64 0, .string ⟨#[]⟩, .int .i64 0, .int .i64 0, .int .i64 nn] 29)).alloc (.cells #[.pointer (some ⟨w.heap.size + 1, 7, none⟩), .pointer (some ⟨w.heap.size + 1, 10, none⟩)] 77)).alloc (.cells #[.string z0, .string z1, .string z2, .string z3] 9)).drew w.heap.size zeroE := (((BlkE.new w zeroE).below ((Below.refl _ _).alloc (Nat.le_refl _) _)).below ((Below.refl _ _).alloc (Nat.le_refl _) _)).below (((Below.refl _ _).alloc (Nat.le_refl _) _).drew)
  have hEE : BlkE ((((w.alloc (.cells #[.string ⟨#[]⟩, .string ⟨#[]⟩, .int .i64 0, .string ⟨#[]⟩, .string ⟨#[]⟩, .int .i64 0, .int .i64 0, .string ⟨#[]⟩, .int .i64 0, .int .i64 0, .string ⟨#[]⟩, .int .i64 0, .int .i64 0, .int .i64 0] 29)).alloc (.cells #[.string kMove, .string ⟨#[]⟩, .int .i64 0, .string z0, .string ⟨#[]⟩, .int .i64 0, .int .i64 0, .string ⟨#[]⟩, .int .i64 0, .int .i64 0, .string ⟨#[]⟩, .int .i64 0, .int .i64 0, .int .i64 nn] 29)).alloc (.cells #[.pointer (some ⟨w.heap.size + 1, 7, none⟩), .pointer (some ⟨w.heap.size + 1, 10, none⟩)] 77)).alloc (.cells #[.string z0, .string z1, .string z2, .string z3] 9)).drew (w.heap.size + 1) (kMove, zeroG, (z0, ⟨#[]⟩, 0, 0), zeroP, zeroP, nn) := by
    have hh := BlkE.new (w.alloc (celE zeroE)) (kMove, zeroG, (z0, ⟨#[]⟩, 0, 0), zeroP, zeroP, nn)
    have e1 : (w.alloc (celE zeroE)).heap.size = w.heap.size + 1 := by simp
    rw [e1] at hh
    exact (hh.below ((Below.refl _ _).alloc (Nat.le_refl _) _)).below (((Below.refl _ _).alloc (Nat.le_refl _) _).drew)
  have hq1 : Ptr2 ((((w.alloc (.cells #[.string ⟨#[]⟩, .string ⟨#[]⟩, .int .i64 0, .string ⟨#[]⟩, .string ⟨#[]⟩, .int .i64 0, .int .i64 0, .string ⟨#[]⟩, .int .i64 0, .int .i64 0, .string ⟨#[]⟩, .int .i64 0, .int .i64 0, .int .i64 0] 29)).alloc (.cells #[.string kMove, .string ⟨#[]⟩, .int .i64 0, .string z0, .string ⟨#[]⟩, .int .i64 0, .int .i64 0, .string ⟨#[]⟩, .int .i64 0, .int .i64 0, .string ⟨#[]⟩, .int .i64 0, .int .i64 0, .int .i64 nn] 29)).alloc (.cells #[.pointer (some ⟨w.heap.size + 1, 7, none⟩), .pointer (some ⟨w.heap.size + 1, 10, none⟩)] 77)).alloc (.cells #[.string z0, .string z1, .string z2, .string z3] 9)).drew (w.heap.size + 1 + 1) (w.heap.size + 1) 7 10 := by
    constructor <;> (rw [(((Below.refl _ _).alloc (Nat.le_refl _) _).drew).cell (p := ⟨w.heap.size + 1 + 1, _, none⟩) (by simp), World.cell?_alloc_at _ _ _ _ (by simp)]; rfl)
  have hq2 : ((((w.alloc (.cells #[.string ⟨#[]⟩, .string ⟨#[]⟩, .int .i64 0, .string ⟨#[]⟩, .string ⟨#[]⟩, .int .i64 0, .int .i64 0, .string ⟨#[]⟩, .int .i64 0, .int .i64 0, .string ⟨#[]⟩, .int .i64 0, .int .i64 0, .int .i64 0] 29)).alloc (.cells #[.string kMove, .string ⟨#[]⟩, .int .i64 0, .string z0, .string ⟨#[]⟩, .int .i64 0, .int .i64 0, .string ⟨#[]⟩, .int .i64 0, .int .i64 0, .string ⟨#[]⟩, .int .i64 0, .int .i64 0, .int .i64 nn] 29)).alloc (.cells #[.pointer (some ⟨w.heap.size + 1, 7, none⟩), .pointer (some ⟨w.heap.size + 1, 10, none⟩)] 77)).alloc (.cells #[.string z0, .string z1, .string z2, .string z3] 9)).drew.cell? ⟨w.heap.size + 1 + 1 + 1, 1, none⟩ = some (.string z1) ∧ ((((w.alloc (.cells #[.string ⟨#[]⟩, .string ⟨#[]⟩, .int .i64 0, .string ⟨#[]⟩, .string ⟨#[]⟩, .int .i64 0, .int .i64 0, .string ⟨#[]⟩, .int .i64 0, .int .i64 0, .string ⟨#[]⟩, .int .i64 0, .int .i64 0, .int .i64 0] 29)).alloc (.cells #[.string kMove, .string ⟨#[]⟩, .int .i64 0, .string z0, .string ⟨#[]⟩, .int .i64 0, .int .i64 0, .string ⟨#[]⟩, .int .i64 0, .int .i64 0, .string ⟨#[]⟩, .int .i64 0, .int .i64 0, .int .i64 nn] 29)).alloc (.cells #[.pointer (some ⟨w.heap.size + 1, 7, none⟩), .pointer (some ⟨w.heap.size + 1, 10, none⟩)] 77)).alloc (.cells #[.string z0, .string z1, .string z2, .string z3] 9)).drew.cell? ⟨w.heap.size + 1 + 1 + 1, 2, none⟩ = some (.string z2) := by
    constructor <;> (rw [World.cell?_drew, World.cell?_alloc_at _ _ _ _ (by simp)]; rfl)
  have HB2 : Hid (Below _ _ _) := hB2
  have HRE : Hid (BlkE _ _ _) := hRE
  have HEE : Hid (BlkE _ _ _) := hEE
  clear hp hR hR2 hB2 hRE hEE
  go_enter Tryz.func37, Tryz.ntmps37
  go_wp2_with (first | (go_at_call 43; refine (hPl _ (by simp)).mono ?_; rintro e w1 ⟨rfl, rfl⟩) | (go_at_call 48; refine (HP.out _).mono ?_; rintro e w2 ⟨rfl, rfl⟩))
  clear HP hPl
  generalize ((((w.alloc (.cells #[.string ⟨#[]⟩, .string ⟨#[]⟩, .int .i64 0, .string ⟨#[]⟩, .string ⟨#[]⟩, .int .i64 0, .int .i64 0, .string ⟨#[]⟩, .int .i64 0, .int .i64 0, .string ⟨#[]⟩, .int .i64 0, .int .i64 0, .int .i64 0] 29)).alloc (.cells #[.string kMove, .string ⟨#[]⟩, .int .i64 0, .string z0, .string ⟨#[]⟩, .int .i64 0, .int .i64 0, .string ⟨#[]⟩, .int .i64 0, .int .i64 0, .string ⟨#[]⟩, .int .i64 0, .int .i64 0, .int .i64 nn] 29)).alloc (.cells #[.pointer (some ⟨w.heap.size + 1, 7, none⟩), .pointer (some ⟨w.heap.size + 1, 10, none⟩)] 77)).alloc (.cells #[.string z0, .string z1, .string z2, .string z3] 9)).drew = W at *
  have p1 := hq1.1
  have p2 := hq1.2
  have p3 := hq2.1
  refine wp_loop_rounds 3 ?_
  rw [rounds_succ]
  go_wp2_with (first | (go_at_call_of 50 (Value.string z1); refine HR.out.mono ?_; rintro e w4 ⟨rfl, hb4⟩; have hbw := HB2.out.trans (hb4.mono HB2.out.size); have hE4 := HEE.out.below hb4; have hR4 := HRE.out.below hb4; have hz4 := hE4.lt; have hz5 := hR4.lt; have hfR := hR4.frozen; have hfE := hE4.frozen; have p4 := (hb4.cell (p := ⟨w.heap.size + 1 + 1, 1, none⟩) (cell_lt hq1.2)).trans hq1.2; have p5 := (hb4.cell (p := ⟨w.heap.size + 1 + 1 + 1, 2, none⟩) (cell_lt hq2.2)).trans hq2.2; obtain ⟨r0, r1, r2, r3, r4, r5, r6, r7, r8, r9, r10, r11, r12, r13⟩ := hR4.at; obtain ⟨c0, c1, c2, c3, c4, c5, c6, c7, c8, c9, c10, c11, c12, c13⟩ := hE4.at; unfold zeroE zeroG zeroL zeroP at r0 r1 r2 r3 r4 r5 r6 r7 r8 r9 r10 r11 r12 r13; unfold zeroG zeroP at c0 c1 c2 c3 c4 c5 c6 c7 c8 c9 c10 c11 c12 c13; simp only at r0 r1 r2 r3 r4 r5 r6 r7 r8 r9 r10 r11 r12 r13 c0 c1 c2 c3 c4 c5 c6 c7 c8 c9 c10 c11 c12 c13; clear hb4 HR p1 p2 p3))
  rw [rounds_succ]
  go_wp2_with (first | (go_at_call_of 50 (Value.string z2); refine (hR' (((w4.setCell ⟨w.heap.size + 1, 7, none⟩ (.string pa)).setCell ⟨w.heap.size + 1, 8, none⟩ (.int .i64 pr)).setCell ⟨w.heap.size + 1, 9, none⟩ (.int .i64 pb)) (((hbw.setCell (p := ⟨w.heap.size + 1, 7, none⟩) (by simp) _).setCell (p := ⟨w.heap.size + 1, 8, none⟩) (by simp) _).setCell (p := ⟨w.heap.size + 1, 9, none⟩) (by simp) _)).mono ?_; rintro e w5 ⟨rfl, hb5⟩; have hbw4 : Below w.heap.size w (((w4.setCell ⟨w.heap.size + 1, 7, none⟩ (.string pa)).setCell ⟨w.heap.size + 1, 8, none⟩ (.int .i64 pr)).setCell ⟨w.heap.size + 1, 9, none⟩ (.int .i64 pb)) := ((hbw.setCell (p := ⟨w.heap.size + 1, 7, none⟩) (by simp) _).setCell (p := ⟨w.heap.size + 1, 8, none⟩) (by simp) _).setCell (p := ⟨w.heap.size + 1, 9, none⟩) (by simp) _; have hbw5 := hbw4.trans (hb5.mono hbw4.size); have hE5 := (set_from hE4 (pa, pr, pb)).below hb5; have hR5 := (set3_other hR4 (w.heap.size + 1) 7 8 9 _ _ _ (by omega)).below hb5; have hfR5 := hR5.frozen; have hfE5 := hE5.frozen; have hz7 : w.heap.size + 1 < w5.heap.size := hE5.lt; have hz8 : w.heap.size < w5.heap.size := hR5.lt; obtain ⟨d0, d1, d2, d3, d4, d5, d6, d7, d8, d9, d10, d11, d12, d13⟩ := hR5.at; obtain ⟨e0, e1, e2, e3, e4, e5, e6, e7, e8, e9, e10, e11, e12, e13⟩ := hE5.at; unfold zeroE zeroG zeroL zeroP at d0 d1 d2 d3 d4 d5 d6 d7 d8 d9 d10 d11 d12 d13; unfold zeroG zeroP at e0 e1 e2 e3 e4 e5 e6 e7 e8 e9 e10 e11 e12 e13; simp only at d0 d1 d2 d3 d4 d5 d6 d7 d8 d9 d10 d11 d12 d13 e0 e1 e2 e3 e4 e5 e6 e7 e8 e9 e10 e11 e12 e13; clear hb5))
  have hFF : BlkE (((((((((((((((((w5.setCell ⟨w.heap.size + 1, 10, none⟩ (.string ta)).setCell ⟨w.heap.size + 1, 11, none⟩ (.int .i64 tr)).setCell ⟨w.heap.size + 1, 12, none⟩ (.int .i64 tb)).setCell ⟨w.heap.size, 0, none⟩ (.string ⟨#[]⟩)).setCell ⟨w.heap.size, 1, none⟩ (.string ⟨#[]⟩)).setCell ⟨w.heap.size, 2, none⟩ (.int .i64 0)).setCell ⟨w.heap.size, 3, none⟩ (.string ⟨#[]⟩)).setCell ⟨w.heap.size, 4, none⟩ (.string ⟨#[]⟩)).setCell ⟨w.heap.size, 5, none⟩ (.int .i64 0)).setCell ⟨w.heap.size, 6, none⟩ (.int .i64 0)).setCell ⟨w.heap.size, 7, none⟩ (.string ⟨#[]⟩)).setCell ⟨w.heap.size, 8, none⟩ (.int .i64 0)).setCell ⟨w.heap.size, 9, none⟩ (.int .i64 0)).setCell ⟨w.heap.size, 10, none⟩ (.string ⟨#[]⟩)).setCell ⟨w.heap.size, 11, none⟩ (.int .i64 0)).setCell ⟨w.heap.size, 12, none⟩ (.int .i64 0)).setCell ⟨w.heap.size, 13, none⟩ (.int .i64 0)) w.heap.size (⟨#[]⟩, (⟨#[]⟩, 0), (⟨#[]⟩, ⟨#[]⟩, 0, 0), (⟨#[]⟩, 0, 0), (⟨#[]⟩, 0, 0), 0) := BlkE.setE (set3_other hR5 (w.heap.size + 1) 10 11 12 _ _ _ (by omega)) (⟨#[]⟩, (⟨#[]⟩, 0), (⟨#[]⟩, ⟨#[]⟩, 0, 0), (⟨#[]⟩, 0, 0), (⟨#[]⟩, 0, 0), 0)
  have hBF : Below w.heap.size w (((((((((((((((((w5.setCell ⟨w.heap.size + 1, 10, none⟩ (.string ta)).setCell ⟨w.heap.size + 1, 11, none⟩ (.int .i64 tr)).setCell ⟨w.heap.size + 1, 12, none⟩ (.int .i64 tb)).setCell ⟨w.heap.size, 0, none⟩ (.string ⟨#[]⟩)).setCell ⟨w.heap.size, 1, none⟩ (.string ⟨#[]⟩)).setCell ⟨w.heap.size, 2, none⟩ (.int .i64 0)).setCell ⟨w.heap.size, 3, none⟩ (.string ⟨#[]⟩)).setCell ⟨w.heap.size, 4, none⟩ (.string ⟨#[]⟩)).setCell ⟨w.heap.size, 5, none⟩ (.int .i64 0)).setCell ⟨w.heap.size, 6, none⟩ (.int .i64 0)).setCell ⟨w.heap.size, 7, none⟩ (.string ⟨#[]⟩)).setCell ⟨w.heap.size, 8, none⟩ (.int .i64 0)).setCell ⟨w.heap.size, 9, none⟩ (.int .i64 0)).setCell ⟨w.heap.size, 10, none⟩ (.string ⟨#[]⟩)).setCell ⟨w.heap.size, 11, none⟩ (.int .i64 0)).setCell ⟨w.heap.size, 12, none⟩ (.int .i64 0)).setCell ⟨w.heap.size, 13, none⟩ (.int .i64 0)) := below_setE (((hbw5.setCell (p := ⟨w.heap.size + 1, 10, none⟩) (by simp) _).setCell (p := ⟨w.heap.size + 1, 11, none⟩) (by simp) _).setCell (p := ⟨w.heap.size + 1, 12, none⟩) (by simp) _) (Nat.le_refl _) (⟨#[]⟩, (⟨#[]⟩, 0), (⟨#[]⟩, ⟨#[]⟩, 0, 0), (⟨#[]⟩, 0, 0), (⟨#[]⟩, 0, 0), 0)
  generalize (((((((((((((((((w5.setCell ⟨w.heap.size + 1, 10, none⟩ (.string ta)).setCell ⟨w.heap.size + 1, 11, none⟩ (.int .i64 tr)).setCell ⟨w.heap.size + 1, 12, none⟩ (.int .i64 tb)).setCell ⟨w.heap.size, 0, none⟩ (.string ⟨#[]⟩)).setCell ⟨w.heap.size, 1, none⟩ (.string ⟨#[]⟩)).setCell ⟨w.heap.size, 2, none⟩ (.int .i64 0)).setCell ⟨w.heap.size, 3, none⟩ (.string ⟨#[]⟩)).setCell ⟨w.heap.size, 4, none⟩ (.string ⟨#[]⟩)).setCell ⟨w.heap.size, 5, none⟩ (.int .i64 0)).setCell ⟨w.heap.size, 6, none⟩ (.int .i64 0)).setCell ⟨w.heap.size, 7, none⟩ (.string ⟨#[]⟩)).setCell ⟨w.heap.size, 8, none⟩ (.int .i64 0)).setCell ⟨w.heap.size, 9, none⟩ (.int .i64 0)).setCell ⟨w.heap.size, 10, none⟩ (.string ⟨#[]⟩)).setCell ⟨w.heap.size, 11, none⟩ (.int .i64 0)).setCell ⟨w.heap.size, 12, none⟩ (.int .i64 0)).setCell ⟨w.heap.size, 13, none⟩ (.int .i64 0)) = WF at *
  obtain ⟨f0, f1, f2, f3, f4, f5, f6, f7, f8, f9, f10, f11, f12, f13⟩ := hFF.at
  simp only at f0 f1 f2 f3 f4 f5 f6 f7 f8 f9 f10 f11 f12 f13
  have hzF := hFF.lt
  exact bodyPost_ret (v := .tuple #[.agg #[.string ⟨#[]⟩, .string ⟨#[]⟩, .int .i64 0, .string ⟨#[]⟩, .string ⟨#[]⟩, .int .i64 0, .int .i64 0, .string ⟨#[]⟩, .int .i64 0, .int .i64 0, .string ⟨#[]⟩, .int .i64 0, .int .i64 0, .int .i64 0], err ad]) (by simp [results, Tryz.results37, go_sem, f0, f1, f2, f3, f4, f5, f6, f7, f8, f9, f10, f11, f12, f13]) rfl ⟨rfl, hBF⟩
set_option maxRecDepth 100000 in
set_option maxHeartbeats 8000000 in
theorem rp_move_ok (k x : ByteArray) (w : World) (s : Nat → Addr) (hz : x.size < 4294967281) (hs : Es w s) (hk : k = kMove) (h : three x.data.toList = true) (h1 : isNum 13 (wd3 x.data.toList) = true) (h2 : (readP (cutA 32 (cutB 32 x.data.toList))).2 = 0) (h3 : (readP (wd2 x.data.toList)).2 = 0) :
    Calls Tryz.prog 37 #[.string k, .string x] w fun e w' => e = .returned (.tuple #[agE (k, zeroG, (arr (cutA 32 x.data.toList), ⟨#[]⟩, 0, 0), (readP (cutA 32 (cutB 32 x.data.toList))).1, (readP (wd2 x.data.toList)).1, numR 13 (wd3 x.data.toList)), .nilIface]) ∧ Below w.heap.size w w' := by
  have hPl := fun w1 (h0 : w1.cell? ⟨w.heap.size + 1, 0, none⟩ = some (.string k)) => places_move (w.heap.size + 1) w1 (by rw [← hk]; exact h0)
  have hp := fun w1 => wn3_yes x w1 hz h
  rw [h1] at hp
  have hl0 : x.data.toList.length < 4294967281 := by rw [size_len]; exact hz
  have q1 := cutB_le 32 x.data.toList
  have q2 := cutA_le 32 (cutB 32 x.data.toList)
  have q3 := cutB_le 32 (cutB 32 x.data.toList)
  have q4 := cutA_le 32 (cutB 32 (cutB 32 x.data.toList))
  have hR := fun w1 (hb : Below w.heap.size w w1) => pread_any ⟨(cutA 32 (cutB 32 x.data.toList)).toArray⟩ w1 s (by rw [mk_size]; unfold maxLen; omega) (hs.three.below hb)
  have hR' := fun w1 (hb : Below w.heap.size w w1) => pread_any ⟨(wd2 x.data.toList).toArray⟩ w1 s (by rw [mk_size]; unfold wd2 maxLen; omega) (hs.three.below hb)
  simp only at hR hR'
  rw [h2, errP_zero] at hR
  rw [h3, errP_zero] at hR'
  generalize (readP (cutA 32 (cutB 32 x.data.toList))).1 = pp at *
  obtain ⟨pa, pr, pb⟩ := pp
  generalize (readP (wd2 x.data.toList)).1 = pt at *
  obtain ⟨ta, tr, tb⟩ := pt
  unfold agP at *
  clear hl0 q1 q2 q3 q4 h2 h3
  subst hk
  clear hz hs h h1
  unfold agE zeroG arr at *
  simp only at *
  generalize numR 13 (wd3 x.data.toList) = nn at *
  generalize (⟨(cutA 32 x.data.toList).toArray⟩ : ByteArray) = z0 at *
  generalize (⟨(cutA 32 (cutB 32 x.data.toList)).toArray⟩ : ByteArray) = z1 at *
  generalize (⟨(wd2 x.data.toList).toArray⟩ : ByteArray) = z2 at *
  generalize (⟨(wd3 x.data.toList).toArray⟩ : ByteArray) = z3 at *
  have hB2 : Below w.heap.size w ((((w.alloc (.cells #[.string ⟨#[]⟩, .string ⟨#[]⟩, .int .i64 0, .string ⟨#[]⟩, .string ⟨#[]⟩, .int .i64 0, .int .i64 0, .string ⟨#[]⟩, .int .i64 0, .int .i64 0, .string ⟨#[]⟩, .int .i64 0, .int .i64 0, .int .i64 0] 29)).alloc (.cells #[.string kMove, .string ⟨#[]⟩, .int .i64 0, .string z0, .string ⟨#[]⟩, .int .i64 0, .int .i64 0, .string ⟨#[]⟩, .int .i64 0, .int .i64 0, .string ⟨#[]⟩, .int .i64 0, .int .i64 0, .int .i64 nn] 29)).alloc (.cells #[.pointer (some ⟨w.heap.size + 1, 7, none⟩), .pointer (some ⟨w.heap.size + 1, 10, none⟩)] 77)).alloc (.cells #[.string z0, .string z1, .string z2, .string z3] 9)).drew := by
    repeat (first | exact Below.refl _ _ | assumption | (refine Below.setCell ?_ (by (try simp); (try omega)) _) | (refine Below.alloc ?_ (by (try simp); (try omega)) _) | (refine Below.drew ?_))
  have hR2 := hR _ hB2
  have HP : Hid (∀ w1, Calls Tryz.prog 48 _ _ _) := hp
  have HR : Hid (Calls Tryz.prog 50 _ _ _) := hR2
  have hRE : BlkE ((((w.alloc (.cells #[.string ⟨#[]⟩, .string ⟨#[]⟩, .int .i64 0, .string ⟨#[]⟩, .string ⟨#[]⟩, .int .i64 0, .int .i64 0, .string ⟨#[]⟩, .int .i64 0, .int .i64 0, .string ⟨#[]⟩, .int .i64 0, .int .i64 0, .int .i64 0] 29)).alloc (.cells #[.string kMove, .string ⟨#[]⟩, .int .i64 0, .string z0, .string ⟨#[]⟩, .int .i64 0, .int .i64 0, .string ⟨#[]⟩, .int .i64 0, .int .i64 0, .string ⟨#[]⟩, .int .i64 0, .int .i64 0, .int .i64 nn] 29)).alloc (.cells #[.pointer (some ⟨w.heap.size + 1, 7, none⟩), .pointer (some ⟨w.heap.size + 1, 10, none⟩)] 77)).alloc (.cells #[.string z0, .string z1, .string z2, .string z3] 9)).drew w.heap.size zeroE := (((BlkE.new w zeroE).below ((Below.refl _ _).alloc (Nat.le_refl _) _)).below ((Below.refl _ _).alloc (Nat.le_refl _) _)).below (((Below.refl _ _).alloc (Nat.le_refl _) _).drew)
  have hEE : BlkE ((((w.alloc (.cells #[.string ⟨#[]⟩, .string ⟨#[]⟩, .int .i64 0, .string ⟨#[]⟩, .string ⟨#[]⟩, .int .i64 0, .int .i64 0, .string ⟨#[]⟩, .int .i64 0, .int .i64 0, .string ⟨#[]⟩, .int .i64 0, .int .i64 0, .int .i64 0] 29)).alloc (.cells #[.string kMove, .string ⟨#[]⟩, .int .i64 0, .string z0, .string ⟨#[]⟩, .int .i64 0, .int .i64 0, .string ⟨#[]⟩, .int .i64 0, .int .i64 0, .string ⟨#[]⟩, .int .i64 0, .int .i64 0, .int .i64 nn] 29)).alloc (.cells #[.pointer (some ⟨w.heap.size + 1, 7, none⟩), .pointer (some ⟨w.heap.size + 1, 10, none⟩)] 77)).alloc (.cells #[.string z0, .string z1, .string z2, .string z3] 9)).drew (w.heap.size + 1) (kMove, zeroG, (z0, ⟨#[]⟩, 0, 0), zeroP, zeroP, nn) := by
    have hh := BlkE.new (w.alloc (celE zeroE)) (kMove, zeroG, (z0, ⟨#[]⟩, 0, 0), zeroP, zeroP, nn)
    have e1 : (w.alloc (celE zeroE)).heap.size = w.heap.size + 1 := by simp
    rw [e1] at hh
    exact (hh.below ((Below.refl _ _).alloc (Nat.le_refl _) _)).below (((Below.refl _ _).alloc (Nat.le_refl _) _).drew)
  have hq1 : Ptr2 ((((w.alloc (.cells #[.string ⟨#[]⟩, .string ⟨#[]⟩, .int .i64 0, .string ⟨#[]⟩, .string ⟨#[]⟩, .int .i64 0, .int .i64 0, .string ⟨#[]⟩, .int .i64 0, .int .i64 0, .string ⟨#[]⟩, .int .i64 0, .int .i64 0, .int .i64 0] 29)).alloc (.cells #[.string kMove, .string ⟨#[]⟩, .int .i64 0, .string z0, .string ⟨#[]⟩, .int .i64 0, .int .i64 0, .string ⟨#[]⟩, .int .i64 0, .int .i64 0, .string ⟨#[]⟩, .int .i64 0, .int .i64 0, .int .i64 nn] 29)).alloc (.cells #[.pointer (some ⟨w.heap.size + 1, 7, none⟩), .pointer (some ⟨w.heap.size + 1, 10, none⟩)] 77)).alloc (.cells #[.string z0, .string z1, .string z2, .string z3] 9)).drew (w.heap.size + 1 + 1) (w.heap.size + 1) 7 10 := by
    constructor <;> (rw [(((Below.refl _ _).alloc (Nat.le_refl _) _).drew).cell (p := ⟨w.heap.size + 1 + 1, _, none⟩) (by simp), World.cell?_alloc_at _ _ _ _ (by simp)]; rfl)
  have hq2 : ((((w.alloc (.cells #[.string ⟨#[]⟩, .string ⟨#[]⟩, .int .i64 0, .string ⟨#[]⟩, .string ⟨#[]⟩, .int .i64 0, .int .i64 0, .string ⟨#[]⟩, .int .i64 0, .int .i64 0, .string ⟨#[]⟩, .int .i64 0, .int .i64 0, .int .i64 0] 29)).alloc (.cells #[.string kMove, .string ⟨#[]⟩, .int .i64 0, .string z0, .string ⟨#[]⟩, .int .i64 0, .int .i64 0, .string ⟨#[]⟩, .int .i64 0, .int .i64 0, .string ⟨#[]⟩, .int .i64 0, .int .i64 0, .int .i64 nn] 29)).alloc (.cells #[.pointer (some ⟨w.heap.size + 1, 7, none⟩), .pointer (some ⟨w.heap.size + 1, 10, none⟩)] 77)).alloc (.cells #[.string z0, .string z1, .string z2, .string z3] 9)).drew.cell? ⟨w.heap.size + 1 + 1 + 1, 1, none⟩ = some (.string z1) ∧ ((((w.alloc (.cells #[.string ⟨#[]⟩, .string ⟨#[]⟩, .int .i64 0, .string ⟨#[]⟩, .string ⟨#[]⟩, .int .i64 0, .int .i64 0, .string ⟨#[]⟩, .int .i64 0, .int .i64 0, .string ⟨#[]⟩, .int .i64 0, .int .i64 0, .int .i64 0] 29)).alloc (.cells #[.string kMove, .string ⟨#[]⟩, .int .i64 0, .string z0, .string ⟨#[]⟩, .int .i64 0, .int .i64 0, .string ⟨#[]⟩, .int .i64 0, .int .i64 0, .string ⟨#[]⟩, .int .i64 0, .int .i64 0, .int .i64 nn] 29)).alloc (.cells #[.pointer (some ⟨w.heap.size + 1, 7, none⟩), .pointer (some ⟨w.heap.size + 1, 10, none⟩)] 77)).alloc (.cells #[.string z0, .string z1, .string z2, .string z3] 9)).drew.cell? ⟨w.heap.size + 1 + 1 + 1, 2, none⟩ = some (.string z2) := by
    constructor <;> (rw [World.cell?_drew, World.cell?_alloc_at _ _ _ _ (by simp)]; rfl)
  have HB2 : Hid (Below _ _ _) := hB2
  have HRE : Hid (BlkE _ _ _) := hRE
  have HEE : Hid (BlkE _ _ _) := hEE
  clear hp hR hR2 hB2 hRE hEE
  go_enter Tryz.func37, Tryz.ntmps37
  go_wp2_with (first | (go_at_call 43; refine (hPl _ (by simp)).mono ?_; rintro e w1 ⟨rfl, rfl⟩) | (go_at_call 48; refine (HP.out _).mono ?_; rintro e w2 ⟨rfl, rfl⟩))
  clear HP hPl
  generalize ((((w.alloc (.cells #[.string ⟨#[]⟩, .string ⟨#[]⟩, .int .i64 0, .string ⟨#[]⟩, .string ⟨#[]⟩, .int .i64 0, .int .i64 0, .string ⟨#[]⟩, .int .i64 0, .int .i64 0, .string ⟨#[]⟩, .int .i64 0, .int .i64 0, .int .i64 0] 29)).alloc (.cells #[.string kMove, .string ⟨#[]⟩, .int .i64 0, .string z0, .string ⟨#[]⟩, .int .i64 0, .int .i64 0, .string ⟨#[]⟩, .int .i64 0, .int .i64 0, .string ⟨#[]⟩, .int .i64 0, .int .i64 0, .int .i64 nn] 29)).alloc (.cells #[.pointer (some ⟨w.heap.size + 1, 7, none⟩), .pointer (some ⟨w.heap.size + 1, 10, none⟩)] 77)).alloc (.cells #[.string z0, .string z1, .string z2, .string z3] 9)).drew = W at *
  have p1 := hq1.1
  have p2 := hq1.2
  have p3 := hq2.1
  refine wp_loop_rounds 3 ?_
  rw [rounds_succ]
  go_wp2_with (first | (go_at_call_of 50 (Value.string z1); refine HR.out.mono ?_; rintro e w4 ⟨rfl, hb4⟩; have hbw := HB2.out.trans (hb4.mono HB2.out.size); have hE4 := HEE.out.below hb4; have hR4 := HRE.out.below hb4; have hz4 := hE4.lt; have hz5 := hR4.lt; have hfR := hR4.frozen; have hfE := hE4.frozen; have p4 := (hb4.cell (p := ⟨w.heap.size + 1 + 1, 1, none⟩) (cell_lt hq1.2)).trans hq1.2; have p5 := (hb4.cell (p := ⟨w.heap.size + 1 + 1 + 1, 2, none⟩) (cell_lt hq2.2)).trans hq2.2; obtain ⟨r0, r1, r2, r3, r4, r5, r6, r7, r8, r9, r10, r11, r12, r13⟩ := hR4.at; obtain ⟨c0, c1, c2, c3, c4, c5, c6, c7, c8, c9, c10, c11, c12, c13⟩ := hE4.at; unfold zeroE zeroG zeroL zeroP at r0 r1 r2 r3 r4 r5 r6 r7 r8 r9 r10 r11 r12 r13; unfold zeroG zeroP at c0 c1 c2 c3 c4 c5 c6 c7 c8 c9 c10 c11 c12 c13; simp only at r0 r1 r2 r3 r4 r5 r6 r7 r8 r9 r10 r11 r12 r13 c0 c1 c2 c3 c4 c5 c6 c7 c8 c9 c10 c11 c12 c13; clear hb4 HR p1 p2 p3))
  rw [rounds_succ]
  go_wp2_with (first | (go_at_call_of 50 (Value.string z2); refine (hR' (((w4.setCell ⟨w.heap.size + 1, 7, none⟩ (.string pa)).setCell ⟨w.heap.size + 1, 8, none⟩ (.int .i64 pr)).setCell ⟨w.heap.size + 1, 9, none⟩ (.int .i64 pb)) (((hbw.setCell (p := ⟨w.heap.size + 1, 7, none⟩) (by simp) _).setCell (p := ⟨w.heap.size + 1, 8, none⟩) (by simp) _).setCell (p := ⟨w.heap.size + 1, 9, none⟩) (by simp) _)).mono ?_; rintro e w5 ⟨rfl, hb5⟩; have hbw4 : Below w.heap.size w (((w4.setCell ⟨w.heap.size + 1, 7, none⟩ (.string pa)).setCell ⟨w.heap.size + 1, 8, none⟩ (.int .i64 pr)).setCell ⟨w.heap.size + 1, 9, none⟩ (.int .i64 pb)) := ((hbw.setCell (p := ⟨w.heap.size + 1, 7, none⟩) (by simp) _).setCell (p := ⟨w.heap.size + 1, 8, none⟩) (by simp) _).setCell (p := ⟨w.heap.size + 1, 9, none⟩) (by simp) _; have hbw5 := hbw4.trans (hb5.mono hbw4.size); have hE5 := (set_from hE4 (pa, pr, pb)).below hb5; have hR5 := (set3_other hR4 (w.heap.size + 1) 7 8 9 _ _ _ (by omega)).below hb5; have hfR5 := hR5.frozen; have hfE5 := hE5.frozen; have hz7 : w.heap.size + 1 < w5.heap.size := hE5.lt; have hz8 : w.heap.size < w5.heap.size := hR5.lt; obtain ⟨d0, d1, d2, d3, d4, d5, d6, d7, d8, d9, d10, d11, d12, d13⟩ := hR5.at; obtain ⟨e0, e1, e2, e3, e4, e5, e6, e7, e8, e9, e10, e11, e12, e13⟩ := hE5.at; unfold zeroE zeroG zeroL zeroP at d0 d1 d2 d3 d4 d5 d6 d7 d8 d9 d10 d11 d12 d13; unfold zeroG zeroP at e0 e1 e2 e3 e4 e5 e6 e7 e8 e9 e10 e11 e12 e13; simp only at d0 d1 d2 d3 d4 d5 d6 d7 d8 d9 d10 d11 d12 d13 e0 e1 e2 e3 e4 e5 e6 e7 e8 e9 e10 e11 e12 e13; clear hb5))
  rw [rounds_succ]
  go_wp2
  have hFF : BlkE (((((((((((((((((w5.setCell ⟨w.heap.size + 1, 10, none⟩ (.string ta)).setCell ⟨w.heap.size + 1, 11, none⟩ (.int .i64 tr)).setCell ⟨w.heap.size + 1, 12, none⟩ (.int .i64 tb)).setCell ⟨w.heap.size, 0, none⟩ (.string kMove)).setCell ⟨w.heap.size, 1, none⟩ (.string ⟨#[]⟩)).setCell ⟨w.heap.size, 2, none⟩ (.int .i64 0)).setCell ⟨w.heap.size, 3, none⟩ (.string z0)).setCell ⟨w.heap.size, 4, none⟩ (.string ⟨#[]⟩)).setCell ⟨w.heap.size, 5, none⟩ (.int .i64 0)).setCell ⟨w.heap.size, 6, none⟩ (.int .i64 0)).setCell ⟨w.heap.size, 7, none⟩ (.string pa)).setCell ⟨w.heap.size, 8, none⟩ (.int .i64 pr)).setCell ⟨w.heap.size, 9, none⟩ (.int .i64 pb)).setCell ⟨w.heap.size, 10, none⟩ (.string ta)).setCell ⟨w.heap.size, 11, none⟩ (.int .i64 tr)).setCell ⟨w.heap.size, 12, none⟩ (.int .i64 tb)).setCell ⟨w.heap.size, 13, none⟩ (.int .i64 nn)) w.heap.size (kMove, (⟨#[]⟩, 0), (z0, ⟨#[]⟩, 0, 0), (pa, pr, pb), (ta, tr, tb), nn) := BlkE.setE (set3_other hR5 (w.heap.size + 1) 10 11 12 _ _ _ (by omega)) (kMove, (⟨#[]⟩, 0), (z0, ⟨#[]⟩, 0, 0), (pa, pr, pb), (ta, tr, tb), nn)
  have hBF : Below w.heap.size w (((((((((((((((((w5.setCell ⟨w.heap.size + 1, 10, none⟩ (.string ta)).setCell ⟨w.heap.size + 1, 11, none⟩ (.int .i64 tr)).setCell ⟨w.heap.size + 1, 12, none⟩ (.int .i64 tb)).setCell ⟨w.heap.size, 0, none⟩ (.string kMove)).setCell ⟨w.heap.size, 1, none⟩ (.string ⟨#[]⟩)).setCell ⟨w.heap.size, 2, none⟩ (.int .i64 0)).setCell ⟨w.heap.size, 3, none⟩ (.string z0)).setCell ⟨w.heap.size, 4, none⟩ (.string ⟨#[]⟩)).setCell ⟨w.heap.size, 5, none⟩ (.int .i64 0)).setCell ⟨w.heap.size, 6, none⟩ (.int .i64 0)).setCell ⟨w.heap.size, 7, none⟩ (.string pa)).setCell ⟨w.heap.size, 8, none⟩ (.int .i64 pr)).setCell ⟨w.heap.size, 9, none⟩ (.int .i64 pb)).setCell ⟨w.heap.size, 10, none⟩ (.string ta)).setCell ⟨w.heap.size, 11, none⟩ (.int .i64 tr)).setCell ⟨w.heap.size, 12, none⟩ (.int .i64 tb)).setCell ⟨w.heap.size, 13, none⟩ (.int .i64 nn)) := below_setE (((hbw5.setCell (p := ⟨w.heap.size + 1, 10, none⟩) (by simp) _).setCell (p := ⟨w.heap.size + 1, 11, none⟩) (by simp) _).setCell (p := ⟨w.heap.size + 1, 12, none⟩) (by simp) _) (Nat.le_refl _) (kMove, (⟨#[]⟩, 0), (z0, ⟨#[]⟩, 0, 0), (pa, pr, pb), (ta, tr, tb), nn)
  generalize (((((((((((((((((w5.setCell ⟨w.heap.size + 1, 10, none⟩ (.string ta)).setCell ⟨w.heap.size + 1, 11, none⟩ (.int .i64 tr)).setCell ⟨w.heap.size + 1, 12, none⟩ (.int .i64 tb)).setCell ⟨w.heap.size, 0, none⟩ (.string kMove)).setCell ⟨w.heap.size, 1, none⟩ (.string ⟨#[]⟩)).setCell ⟨w.heap.size, 2, none⟩ (.int .i64 0)).setCell ⟨w.heap.size, 3, none⟩ (.string z0)).setCell ⟨w.heap.size, 4, none⟩ (.string ⟨#[]⟩)).setCell ⟨w.heap.size, 5, none⟩ (.int .i64 0)).setCell ⟨w.heap.size, 6, none⟩ (.int .i64 0)).setCell ⟨w.heap.size, 7, none⟩ (.string pa)).setCell ⟨w.heap.size, 8, none⟩ (.int .i64 pr)).setCell ⟨w.heap.size, 9, none⟩ (.int .i64 pb)).setCell ⟨w.heap.size, 10, none⟩ (.string ta)).setCell ⟨w.heap.size, 11, none⟩ (.int .i64 tr)).setCell ⟨w.heap.size, 12, none⟩ (.int .i64 tb)).setCell ⟨w.heap.size, 13, none⟩ (.int .i64 nn)) = WF at *
  obtain ⟨f0, f1, f2, f3, f4, f5, f6, f7, f8, f9, f10, f11, f12, f13⟩ := hFF.at
  simp only at f0 f1 f2 f3 f4 f5 f6 f7 f8 f9 f10 f11 f12 f13
  have hzF := hFF.lt
  exact bodyPost_ret (v := .tuple #[.agg #[.string kMove, .string ⟨#[]⟩, .int .i64 0, .string z0, .string ⟨#[]⟩, .int .i64 0, .int .i64 0, .string pa, .int .i64 pr, .int .i64 pb, .string ta, .int .i64 tr, .int .i64 tb, .int .i64 nn], .nilIface]) (by simp [results, Tryz.results37, go_sem, f0, f1, f2, f3, f4, f5, f6, f7, f8, f9, f10, f11, f12, f13]) rfl ⟨rfl, hBF⟩
end Go.Proofs.YtgdhfipbbijngaaGreatDoor
