/-
 Picks of a lot, picks that go on, days.
-/
import Derived.Test.YtefkchmahcjleaaGreatDoorJz17
import Derived.Test.YtefkchmahcjleaaGreatDoorJz19
import Derived.Maps.AppendAt
set_option maxRecDepth 100000
set_option maxHeartbeats 16000000
namespace Go.Proofs.YtefkchmahcjleaaGreatDoor
open Go.RowKit Go.Lib Go.Sort
theorem Tryz.infoPk : (Tryz.prog.info? 60).map (fun i => (i.zero, i.size, i.bytes)) = some (some (.agg #[.string ⟨#[]⟩, .int .i64 0, .int .i64 0, .string ⟨#[]⟩, .int .i64 0]), 5, 56) := by kernel_rfl
theorem linesOf_succ {m : List Ln} {k : Nat} {l : Ln} (h : m[k]? = some l) (c : ByteArray) : linesOf (m.take (k + 1)) c = linesOf (m.take k) c ++ (if l.2.1 = c then [l] else []) := by
 unfold linesOf
 rw [List.take_add_one, h, List.filter_append]
 congr 1
 by_cases hc : l.2.1 = c <;> simp [hc]
theorem linesOf_length (m : List Ln) (c : ByteArray) : (linesOf m c).length ≤ m.length := List.length_filter_le ..
theorem rowV_of {w : World} {B : Nat} {T : TypeId} {v : Value} {m : List Ln} (h : encLn.Row w B T v m) : RowV w v m := by
 rcases h.forms with ⟨h1, h2⟩ | ⟨g, cap, h1, -, -, -, -, h2⟩
 ·exact Or.inl ⟨h2, h1⟩
 ·refine Or.inr ⟨g, cap, h1, fun i l hi => ?_⟩
  exact ⟨h2 i l 0 hi (by decide), h2 i l 1 hi (by decide), h2 i l 2 hi (by decide), h2 i l 3 hi (by decide), h2 i l 4 hi (by decide)⟩
theorem line_box (wr : World) (l : Ln) (T : TypeId) : ∃ W1 : World, wr.alloc (.cells #[.string l.1.1, .int .i64 l.1.2.1, .int .i64 l.1.2.2, .string l.2.1, .int .i64 l.2.2] T) = W1 ∧ Below wr.heap.size wr W1 ∧ LineAt W1 wr.heap.size 0 l ∧ wr.heap.size < W1.heap.size :=
 ⟨_, rfl, (Below.refl _ _).alloc (Nat.le_refl _) _, LineAt.new wr l T _ rfl, by simp⟩
theorem picksOf_any (w : World) (v : Value) (m : List Ln) (id : ByteArray) (h : RowV w v m) (h1 : m.length ≤ 1000) :
  Calls Tryz.prog 70 #[v, .string id] w fun e w' => ∃ v', e = .returned v' ∧ encLn.Row w' w.heap.size 60 v' (linesOf m id) ∧ Below w.heap.size w w' := by
 obtain ⟨i0, hi, hz0, hz1, hz2⟩ := info_parts Tryz.infoPk
 rcases h with ⟨rfl, rfl⟩ | ⟨g, c, rfl, hr⟩
 ·go_enter Tryz.func70, Tryz.ntmps70
  go_wp2
  refine wp_loop_rounds 1 ?_
  rw [rounds_succ]
  go_wp2
  go_ret
  exact ⟨_, rfl, Enc.Row.nil _ _ _ _, Below.refl _ _⟩
 ·obtain ⟨ln, hln⟩ : ∃ ln, ln = m.length := ⟨_, rfl⟩
  have HN : Hid (ln = m.length) := hln
  have HR : Hid (RowN w g m) := hr
  rw [← hln] at h1 ⊢
  clear hln hr
  go_enter Tryz.func70, Tryz.ntmps70
  go_wp2
  go_loopw [5, 10] (fun v i wr => ∃ k : Nat, k ≤ ln ∧ i = .int .i64 k ∧ encLn.Row wr w.heap.size 60 v (linesOf (m.take k) id) ∧ Below w.heap.size w wr) (fun _ i _ => ln - (RowKit.intOf i).toNat)
  case atStart => exact ⟨0, Nat.zero_le _, rfl, Enc.Row.nil _ _ _ _, Below.refl _ _⟩
  case round =>
   rename_i vout
   obtain ⟨k, hk, rfl, hrow, hwr⟩ := hrel
   obtain ⟨ao, co, rfl⟩ := hrow.shape
   have hlo : (linesOf (m.take k) id).length ≤ k := Nat.le_trans (linesOf_length _ _) (by rw [List.length_take]; omega)
   have HRow : Hid (encLn.Row wr w.heap.size 60 (.slice ao (linesOf (m.take k) id).length co) (linesOf (m.take k) id)) := hrow
   clear hrow
   by_cases hlt : k < ln
   ·have hkm : k < m.length := by rw [← HN.out]; exact hlt
    obtain ⟨l, hl⟩ : ∃ l, m[k]? = some l := ⟨_, List.getElem?_eq_getElem hkm⟩
    obtain ⟨c0, c1, c2, c3, c4⟩ := HR.out.below hwr k l hl
    have e1 := linesOf_succ hl id
    obtain ⟨W1, hal, hb1, hbx, hlt1⟩ := line_box wr l 97
    have HB1 : Hid (Below _ _ _) := hb1
    obtain ⟨⟨a, r, b⟩, lc, n⟩ := l
    obtain ⟨d0, d1, d2, d3, d4⟩ := hbx
    simp only [Nat.zero_add] at c0 c1 c2 c3 c4 d0 d1 d2 d3 d4 e1 hal
    have e3 := same_eq lc id
    clear hl hkm hb1
    have HwW1 : Hid (Below w.heap.size w W1) := hwr.trans (HB1.out.mono hwr.size)
    by_cases hc : lc = id
    ·rw [if_pos hc] at e1
     rw [decide_eq_true hc] at e3
     have HE : Hid (linesOf (m.take (k + 1)) id = linesOf (m.take k) id ++ [((a, r, b), lc, n)]) := e1
     clear e1 hc
     generalize linesOf (m.take k) id = M at *
     generalize hmn : M.length = mn at *
     have HMn : Hid (M.length = mn) := hmn
     have HRW : Hid (W1.ownsRow w.heap.size 60 5 (.slice ao mn co) mn (encLn.flat M)) := by
      have := HRow.out.below HB1.out
      unfold Enc.Row at this
      rw [hmn] at this
      exact this
     clear hmn
     go_wp2_with (first
      | (at_builtin; refine wpList_append_own _ rfl _ _ 30 rfl w.heap.size 60 i0 (.agg #[.string ⟨#[]⟩, .int .i64 0, .int .i64 0, .string ⟨#[]⟩, .int .i64 0]) 5 56 Tryz.underlying30 hi hz0 hz1 hz2 rfl (by decide) (.slice ao mn co) mn (encLn.flat M) rfl (HRW.out.alloc _) ⟨W1.heap.size, 0, none⟩ 1 1 (encLn.enc (((a, r, b), lc, n) : Ln)) rfl rfl (World.news_of_block (heap_alloc_new W1 _)) (encLn.one _) (by unfold maxLen; omega) (by omega) (by have := HwW1.out.size; simp; omega) ?_; intro v2 W2 own2 gr2 _; have bW2 : Below w.heap.size w W2 := (HwW1.out.alloc HwW1.out.size _).grown gr2 (by have := HwW1.out.size; simp; omega) (fun k hk => (HRW.out.lt k hk).1); have OO : Hid (W2.ownsRow w.heap.size 60 5 v2 (mn + 1) (encLn.flat M ++ encLn.enc (((a, r, b), lc, n) : Ln))) := own2; have BW : Hid (Below _ _ _) := bW2; clear own2 gr2 bW2))
     go_roundw
     case rel =>
      refine ⟨k + 1, by omega, by go_num, ?_, BW.out⟩
      rw [HE.out]
      unfold Enc.Row
      rw [List.length_append, HMn.out, encLn.flat_append, encLn.flat_one]
      exact OO.out
     case measure => simp [RowKit.intOf]; omega
    ·rw [if_neg hc, List.append_nil] at e1
     rw [decide_eq_false hc] at e3
     have HE : Hid (linesOf (m.take (k + 1)) id = linesOf (m.take k) id) := e1
     have HRW := HRow.out.below HB1.out
     clear e1 hc
     generalize linesOf (m.take k) id = M at *
     go_wp2
     go_roundw
     case rel => exact ⟨k + 1, by omega, by go_num, by rw [HE.out]; exact HRW, HwW1.out⟩
     case measure => simp [RowKit.intOf]; omega
   ·have hkn : k = ln := by omega
    have e : m.take k = m := List.take_of_length_le (by rw [← HN.out]; omega)
    rw [e] at HRow ⊢
    go_wp2
    go_ret
    exact ⟨_, rfl, HRow.out, hwr⟩
theorem pick_box (wr : World) (l : Ln) (T : TypeId) (mn : Int) : ∃ W1 W2 : World, wr.alloc (.cells #[.string l.1.1, .int .i64 l.1.2.1, .int .i64 l.1.2.2, .string l.2.1, .int .i64 l.2.2] T) = W1 ∧ W1.setCell ⟨wr.heap.size, 4, none⟩ (.int .i64 mn) = W2 ∧
  Below wr.heap.size wr W1 ∧ Below wr.heap.size wr W2 ∧ LineAt W1 wr.heap.size 0 l ∧ LineAt W2 wr.heap.size 0 (l.1, l.2.1, mn) ∧ W1.frozen? ⟨wr.heap.size, 4, none⟩ = false ∧ wr.heap.size < W2.heap.size := by
 have hb := heap_alloc_new wr (.cells #[.string l.1.1, .int .i64 l.1.2.1, .int .i64 l.1.2.2, .string l.2.1, .int .i64 l.2.2] T)
 have hs := set_cell (cs' := #[.string l.1.1, .int .i64 l.1.2.1, .int .i64 l.1.2.2, .string l.2.1, .int .i64 mn]) hb 4 (.int .i64 mn) rfl
 have h1 : Below wr.heap.size wr (wr.alloc (.cells #[.string l.1.1, .int .i64 l.1.2.1, .int .i64 l.1.2.2, .string l.2.1, .int .i64 l.2.2] T)) := (Below.refl _ _).alloc (Nat.le_refl _) _
 refine ⟨_, _, rfl, rfl, h1, h1.setCell (Nat.le_refl _) _, LineAt.new wr l T _ rfl, ⟨?_, ?_, ?_, ?_, ?_⟩, frozen_of_heap hb _, by simp⟩ <;> (rw [cell_of_heap hs]; rfl)
theorem takeP_take_succ {m : List Ln} {k : Nat} {l : Ln} {n : Int} (h : m[k]? = some l) (hp : PosP m) (hn : 0 ≤ n) (hr : n - min (sumP (m.take k)) n ≠ 0) :
  takeP (m.take (k + 1)) n = takeP (m.take k) n ++ [(l.1, l.2.1, min l.2.2 (n - min (sumP (m.take k)) n))] := by
 rw [List.take_add_one, h]
 show takeP (m.take k ++ [l]) n = _
 rw [takeP_app (fun q hq => hp q (List.mem_of_mem_take hq)) hn, takeP_cons hr]
 congr 2
theorem takeP_take_full {m : List Ln} {k : Nat} {n : Int} (hp : PosP m) (hn : 0 ≤ n) (hr : n - min (sumP (m.take k)) n = 0) : takeP m n = takeP (m.take k) n := by
 have e : m = m.take k ++ m.drop k := (List.take_append_drop k m).symm
 conv => lhs; rw [e]
 rw [takeP_app (fun q hq => hp q (List.mem_of_mem_take hq)) hn, hr, takeP_zero, List.append_nil]
theorem takeP_length (l : List Ln) : ∀ n : Int, (takeP l n).length ≤ l.length := by
 induction l with
 | nil => intro n; exact Nat.le_refl _
 | cons p l ih =>
  intro n
  by_cases h0 : n = 0
  ·rw [h0, takeP_zero]; simp
  ·rw [takeP_cons h0]
   simp only [List.length_cons]
   have := ih (n - min p.2.2 n)
   omega
theorem goOn_any (w : World) (B : Nat) (u v : Value) (ps m : List Ln) (n : Int) (hB : B ≤ w.heap.size) (hu : encLn.Row w B 60 u ps) (h : RowV w v m) (hne : ∀ g, v.ownBlock = some g → u.ownBlock ≠ some g)
  (hp : PosP m) (hn : 0 ≤ n) (hn2 : n ≤ 1125899906842624) (h1 : ps.length + m.length ≤ 100000) :
  Calls Tryz.prog 33 #[u, v, .int .i64 n] w fun e w' => ∃ v', e = .returned v' ∧ encLn.Row w' B 60 v' (ps ++ takeP m n) ∧ Below B w w' ∧ ∀ k, k < w.heap.size → u.ownBlock ≠ some k → w'.heap[k]? = w.heap[k]? := by
 obtain ⟨i0, hi, hz0, hz1, hz2⟩ := info_parts Tryz.infoPk
 rcases h with ⟨rfl, rfl⟩ | ⟨g, c, rfl, hr⟩
 ·have HU : Hid (encLn.Row w B 60 u ps) := hu
  obtain ⟨ao, co, rfl⟩ := hu.shape
  clear hu
  go_enter Tryz.func33, Tryz.ntmps33
  go_wp2
  refine wp_loop_rounds 1 ?_
  rw [rounds_succ]
  go_wp2
  go_ret
  exact ⟨_, rfl, by rw [show takeP [] n = [] from rfl, List.append_nil]; exact HU.out, Below.refl _ _, fun _ _ _ => rfl⟩
 ·obtain ⟨ln, hln⟩ : ∃ ln, ln = m.length := ⟨_, rfl⟩
  have HN : Hid (ln = m.length) := hln
  have HR : Hid (RowN w g m) := hr
  have HP : Hid (PosP m) := hp
  have HU : Hid (encLn.Row w B 60 u ps) := hu
  have HGu : Hid (u.ownBlock ≠ some g) := hne g rfl
  have HG : Hid (ln = 0 ∨ g < w.heap.size) := by
   show _ ∨ _
   rcases Nat.eq_zero_or_pos ln with h0 | h0
   ·exact Or.inl h0
   ·exact Or.inr (hr 0 m[0] (List.getElem?_eq_getElem (by omega))).lt
  rw [← hln] at h1 ⊢
  have HM : Hid (B ≤ w.heap.size) := hB
  obtain ⟨au, cu, rfl⟩ := hu.shape
  clear hln hr hp hu hne hB
  go_enter Tryz.func33, Tryz.ntmps33
  go_wp2
  go_loopw [0, 2, 11] (fun v x i wr => ∃ k : Nat, k ≤ ln ∧ i = .int .i64 k ∧ x = .int .i64 (n - min (sumP (m.take k)) n) ∧ encLn.Row wr B 60 v (ps ++ takeP (m.take k) n) ∧ (∀ k0, k0 < w.heap.size → v.ownBlock = some k0 → (Value.slice au ps.length cu).ownBlock = some k0) ∧ Below B w wr ∧ (∀ k0, k0 < w.heap.size → (Value.slice au ps.length cu).ownBlock ≠ some k0 → wr.heap[k0]? = w.heap[k0]?)) (fun _ _ i _ => ln - (RowKit.intOf i).toNat)
  case atStart =>
   refine ⟨0, Nat.zero_le _, rfl, ?_, ?_, fun _ _ e => e, Below.refl _ _, fun _ _ _ => rfl⟩
   ·show Value.int .i64 n = .int .i64 (n - min (sumP []) n)
    have : sumP [] = 0 := rfl
    rw [this, show n - min 0 n = n by omega]
   ·rw [List.take_zero, show takeP [] n = [] from rfl, List.append_nil]; exact HU.out
  case round =>
   rename_i vout nout
   obtain ⟨k, hk, rfl, rfl, hrow, hvo, hwr, hall⟩ := hrel
   obtain ⟨ao, co, rfl⟩ := hrow.shape
   have hlo : (takeP (m.take k) n).length ≤ k := Nat.le_trans (takeP_length _ _) (by rw [List.length_take]; omega)
   have HRow : Hid (encLn.Row wr B 60 (.slice ao (ps ++ takeP (m.take k) n).length co) (ps ++ takeP (m.take k) n)) := hrow
   have hsz : (ps ++ takeP (m.take k) n).length ≤ 100000 := by rw [List.length_append]; omega
   have HVo : Hid (∀ k0, k0 < w.heap.size → (Value.slice ao (ps ++ takeP (m.take k) n).length co).ownBlock = some k0 → (Value.slice au ps.length cu).ownBlock = some k0) := hvo
   have HAll : Hid (∀ k0, k0 < w.heap.size → (Value.slice au ps.length cu).ownBlock ≠ some k0 → wr.heap[k0]? = w.heap[k0]?) := hall
   clear hrow hlo hvo hall
   by_cases hlt : k < ln
   ·have hkm : k < m.length := by rw [← HN.out]; exact hlt
    obtain ⟨l, hl⟩ : ∃ l, m[k]? = some l := ⟨_, List.getElem?_eq_getElem hkm⟩
    have hgb : wr.heap[g]? = w.heap[g]? := HAll.out g (HG.out.resolve_left (by omega)) HGu.out
    obtain ⟨c0, c1, c2, c3, c4⟩ := HR.out.of_block hgb k l hl
    obtain ⟨o1, o2⟩ := sumP_take_bound HP.out k
    have q1 := HP.out l (List.mem_of_getElem? hl)
    have e0 := sumP_take_succ hl
    by_cases hz : n - min (sumP (m.take k)) n = 0
    ·have e1 := takeP_take_full HP.out hn hz
     have HE : Hid (takeP m n = takeP (m.take k) n) := e1
     obtain ⟨W1, hal, hb1, hbx, hlt1⟩ := line_box wr l 60
     have HB1 : Hid (Below _ _ _) := hb1
     obtain ⟨⟨a, r, b⟩, lc, q⟩ := l
     simp only at c0 c1 c2 c3 c4 hal
     have HW : Hid (Below B w W1) := hwr.trans (HB1.out.mono (Nat.le_trans HM.out hwr.size))
     have HO := HRow.out.below HB1.out
     rw [hz]
     clear hl hkm e1 e0 hb1 o1 o2 q1 hz
     generalize takeP (m.take k) n = M at *
     go_wp2
     go_ret
     exact ⟨_, rfl, by rw [HE.out]; exact HO, HW.out, fun k0 hk0 hu0 => (HB1.out.block k0 (Nat.lt_of_lt_of_le hk0 hwr.size)).trans (HAll.out k0 hk0 hu0)⟩
    ·have HE : Hid (takeP (m.take (k + 1)) n = takeP (m.take k) n ++ [(l.1, l.2.1, min l.2.2 (n - min (sumP (m.take k)) n))]) := takeP_take_succ hl HP.out hn hz
     have HS : Hid (n - min (sumP (m.take k)) n - min l.2.2 (n - min (sumP (m.take k)) n) = n - min (sumP (m.take (k + 1))) n) := by show _ = _; rw [e0]; omega
     have hx1 : 0 < n - min (sumP (m.take k)) n := by omega
     have hx2 : n - min (sumP (m.take k)) n ≤ 1125899906842624 := by omega
     obtain ⟨W1, W2, hal, hst, hb1, hb2, hbx1, hbx2, hfz, hlt2⟩ := pick_box wr l 60 (min l.2.2 (n - min (sumP (m.take k)) n))
     have HB2 : Hid (Below _ _ _) := hb2
     have hgl : g < wr.heap.size := Nat.lt_of_lt_of_le (HG.out.resolve_left (by omega)) hwr.size
     have HA2 : Hid (∀ k0, k0 < w.heap.size → (Value.slice au ps.length cu).ownBlock ≠ some k0 → W2.heap[k0]? = w.heap[k0]?) := fun k0 hk0 hu0 => (HB2.out.block k0 (Nat.lt_of_lt_of_le hk0 hwr.size)).trans (HAll.out k0 hk0 hu0)
     have hwW : w.heap.size ≤ W2.heap.size := Nat.le_trans hwr.size hb2.size
     have HwW2 : Hid (Below B w W2) := hwr.trans (HB2.out.mono (Nat.le_trans HM.out hwr.size))
     have hBr : B ≤ wr.heap.size := Nat.le_trans HM.out hwr.size
     have hgW : g < W2.heap.size := by have := hb2.size; omega
     have HRW := HRow.out.below HB2.out
     unfold Enc.Row at HRW
     obtain ⟨⟨a, r, b⟩, lc, q⟩ := l
     obtain ⟨d0, d1, d2, d3, d4⟩ := hbx1
     obtain ⟨x0, x1, x2, x3, x4⟩ := hbx2
     simp only [Nat.zero_add] at c0 c1 c2 c3 c4 d0 d1 d2 d3 d4 x0 x1 x2 x3 x4 hal hst HE HS q1
     generalize hNN : n - min (sumP (m.take k)) n = N at *
     have hm1 : (1 : Int) ≤ min q N := by omega
     have hm2 : min q N ≤ N := by omega
     have HLen : Hid ((ps ++ takeP (m.take k) n).length = (ps ++ takeP (m.take k) n).length) := rfl
     generalize hT : ps ++ takeP (m.take k) n = M at *
     have HT : Hid (ps ++ takeP (m.take k) n = M) := hT
     generalize hmn : M.length = ml at *
     have HMl : Hid (M.length = ml) := hmn
     have HRW' : Hid (W2.ownsRow B 60 5 (.slice ao ml co) ml (encLn.flat M)) := HRW
     have hBW : B ≤ W2.heap.size := Nat.le_trans hBr hb2.size
     have hN0 : (N == 0) = false := by simp; omega
     clear hb1 hb2 hl hkm e0 o1 o2 HRW hT hmn hNN HLen
     have hNb : (Value.slice ao ml co).ownBlock ≠ some wr.heap.size := fun e => absurd ((HRow.out.lt e).2) (Nat.lt_irrefl _)
     have HNb : Hid ((Value.slice ao ml co).ownBlock ≠ some wr.heap.size) := hNb
     clear hNb
     go_wp2_with (first
      | (at_builtin; refine wpList_append_own_at _ rfl _ _ 30 rfl B 60 i0 (.agg #[.string ⟨#[]⟩, .int .i64 0, .int .i64 0, .string ⟨#[]⟩, .int .i64 0]) 5 56 Tryz.underlying30 hi hz0 hz1 hz2 rfl (by decide) (.slice ao ml co) ml (encLn.flat M) rfl (HRW'.out.alloc _) ⟨W2.heap.size, 0, none⟩ 1 1 (encLn.enc (((a, r, b), lc, min q N) : Ln)) rfl rfl (World.news_of_block (heap_alloc_new W2 _)) (encLn.one _) (by unfold maxLen; omega) (by omega) (by simp; omega) ?_; intro v3 W3 own3 gr3 _ hl3; have bW3 : Below B w W3 := (HwW2.out.alloc hBW _).grown gr3 (by simp; omega) (fun k hk => (HRW'.out.lt k hk).1); have A3 : Hid (∀ k0, k0 < w.heap.size → (Value.slice au ps.length cu).ownBlock ≠ some k0 → W3.heap[k0]? = w.heap[k0]?) := (fun k0 hk0 hu0 => (gr3.block k0 (by simp; omega) (fun e => hu0 (HVo.out k0 hk0 e.symm))).trans ((((Below.refl _ W2).alloc (Nat.le_refl _) _).block k0 (by omega)).trans (HA2.out k0 hk0 hu0))); have b3 : W3.heap[wr.heap.size]? = W2.heap[wr.heap.size]? := (gr3.block wr.heap.size (by simp; omega) (fun e => HNb.out e.symm)).trans (((Below.refl _ W2).alloc (Nat.le_refl _) _).block _ hlt2); have y4 : W3.cell? ⟨wr.heap.size, 4, none⟩ = some (.int .i64 (min q N)) := (World.cell?_of_block (a := ⟨wr.heap.size, 4, none⟩) b3).trans x4; have OO : Hid (W3.ownsRow B 60 5 v3 (ml + 1) (encLn.flat M ++ encLn.enc (((a, r, b), lc, min q N) : Ln))) := own3; have BW : Hid (Below _ _ _) := bW3; have N3 : Hid (∀ k0, k0 < w.heap.size → v3.ownBlock = some k0 → (Value.slice au ps.length cu).ownBlock = some k0) := (fun k0 hk0 e => hl3.elim (fun h => HVo.out k0 hk0 (h.symm.trans e)) (fun h => by rw [e] at h; injection h with h; simp at h; omega)); clear own3 gr3 bW3 b3 hl3))
     go_roundw
     case rel =>
      refine ⟨k + 1, by omega, by go_num, ?_, ?_, N3.out, BW.out, A3.out⟩
      ·rw [← HS.out]
      ·rw [HE.out, ← List.append_assoc, HT.out]
       unfold Enc.Row
       rw [List.length_append, HMl.out, encLn.flat_append, encLn.flat_one]
       exact OO.out
     case measure => simp [RowKit.intOf]; omega
   ·have hkn : k = ln := by omega
    have e : m.take k = m := List.take_of_length_le (by rw [← HN.out]; omega)
    rw [e] at HRow ⊢
    go_wp2
    go_ret
    exact ⟨_, rfl, HRow.out, hwr, HAll.out⟩
theorem dayWell_any (day : Int) (w : World) : Calls Tryz.prog 29 #[.int .i64 day] w fun e w' => e = .returned (.bool (decide (0 ≤ day) && decide (day ≤ 100000))) ∧ Below w.heap.size w w' := by
 go_enter Tryz.func29, Tryz.ntmps29
 by_cases h1 : 0 ≤ day
 ·by_cases h2 : day ≤ 100000
  ·rw [decide_eq_true h1, decide_eq_true h2]
   go_wp2
   go_ret
   exact ⟨rfl, Below.refl _ _⟩
  ·rw [decide_eq_true h1, decide_eq_false h2]
   go_wp2
   go_ret
   exact ⟨rfl, Below.refl _ _⟩
 ·rw [decide_eq_false h1]
  go_wp2
  go_ret
  exact ⟨rfl, Below.refl _ _⟩
end Go.Proofs.YtefkchmahcjleaaGreatDoor
