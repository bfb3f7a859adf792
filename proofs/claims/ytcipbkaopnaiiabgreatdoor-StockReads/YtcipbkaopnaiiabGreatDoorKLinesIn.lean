/-
  What Lines answers: the lines of a stock in order, in memory of their own; nothing old is turned.
-/
import Derived.Test.YtcipbkaopnaiiabGreatDoorKLines
namespace Go.Proofs.YtcipbkaopnaiiabGreatDoor
open Go.RowKit Go.Lib Go.Sort Go.Shelf

theorem encN_cells (w : World) (l : Ln) (t n : Nat) (hn : n = w.heap.size) : ∀ j u, (encN l)[j]? = some u → (w.alloc (.cells #[.string l.1.1, .int .i64 l.1.2.1, .int .i64 l.1.2.2, .string l.2.1, .int .i64 l.2.2] t)).cell? ((⟨n, 0, none⟩ : Addr).add j) = some u := by
  intro j u hj
  rw [Go.WideShapes.add_plain, Nat.zero_add, World.cell?_alloc_at _ _ _ _ hn]
  simpa [encN] using hj
set_option maxRecDepth 100000 in
set_option maxHeartbeats 4000000 in
/-- Lines. -/
theorem lines_any (w : World) (p b : Nat) (m : List Ln) (h : IsStock w p b m) :
    Calls Tryz.prog 42 #[.pointer (some ⟨p, 0, none⟩)] w fun e w' => ∃ g cap, e = .returned (.slice (some ⟨g, 0, none⟩) m.length cap) ∧ w.heap.size ≤ g ∧ RowN w' g m ∧ Below w.heap.size w w' := by
  obtain ⟨i0, hi, hz0, hz1, hz2⟩ := info_parts Tryz.infoLn
  have hc := h.cell
  have hm := h.map
  have hlt := h.lt
  have HW : Hid (Wf m) := h.wf
  have h200 := h.wf.len
  have hNm : (m.map entN).length = m.length := by simp
  have eg : ∀ args w, (callFunc 79 args).run Tryz.prog w = .ok (.enter 79 args) w := enters_of Tryz.func79 (by kernel_rfl) rfl
  have hso := fun g cap (d : List Ln) w1 (hd : d.length ≤ 200) (hH : HoldsK encN 5 w1 g 0 d.toArray) (hg : g < w1.heap.size) => AnyQ.slices_SortFunc Tryz.laysSortK 5 Tryz.isAgg69 Tryz.sizeOf69 encN encN_len encN_one cmpN swoN 79 #[] g 0 cap d.toArray w1 eg (cmpLaysN g 0 d.toArray.size w1) hH hg (by simp only [List.size_toArray]; omega)
  change ∀ g cap (d : List Ln) w1, _ → _ → _ → Calls Tryz.prog 83 _ _ _ at hso
  simp only [List.size_toArray] at hso
  have HO : Hid (∀ g cap (d : List Ln) w1, _ → _ → _ → Calls Tryz.prog 83 _ _ _) := hso
  clear h eg hso
  obtain ⟨ln, hln⟩ : ∃ ln, ln = m.length := ⟨_, rfl⟩
  have HL : Hid (ln = m.length) := hln
  rw [← hln] at h200 hNm
  clear hln
  go_enter Tryz.func42, Tryz.ntmps42
  go_wp2_with (first
    | (at_len; refine wpL_len rfl _ 96 rfl 104 3 Tryz.underlying96 b _ ln hNm rfl hm ?_)
    | (at_make; refine wpList_make_own _ rfl _ _ 28 rfl w.heap.size 69 i0 _ 5 Tryz.underlying28 hi hz0 hz1 .i64 .i64 _ ln rfl rfl rfl (by rw [hz2]; omega) (by unfold maxLen; omega) (Nat.le_refl _) ?_; intro w1 hown1 hgr1; have hc1 : w1.cell? ⟨p, 0, none⟩ = some (.map (some b)) := (World.cell?_of_block (a := ⟨p, 0, none⟩) (hgr1.block p hlt.1 (by simp))).trans hc; have hm1 := hm.kept hgr1 (by simp); have hb1 : Below w.heap.size w w1 := ⟨hgr1.os, hgr1.tape, hgr1.output, hgr1.size, fun k hk => hgr1.block k hk (by simp)⟩)
    | (at_range; refine wpL_range rfl _ 96 rfl 104 3 Tryz.underlying96 b (m.map entN) rfl hm1 ?_; intro w0 hrg0 hg0 hs0))
  go_frame
  have hb0 : Below w.heap.size w w0 := hb1.trans (Below.mono ⟨hg0.os, hg0.tape, hg0.output, hg0.size, fun k hk => hg0.block k hk (by simp)⟩ hb1.size)
  have hown0 := hown1.kept hg0 (Or.inr (by simp [Value.ownBlock]))
  have hr0 : w.heap.size < w1.heap.size := (hown1.lt w.heap.size rfl).2
  clear hg0 hs0 hm hm1 hc1 hgr1 hown1 hb1 hc
  generalize w1.heap.size = r at *
  have HB : Hid (b < w.heap.size) := hlt.2
  have HR : Hid (w.heap.size < r) := hr0
  clear hr0 hlt
  go_loopw [3] (fun sl wr => ∃ d t : List Ln, (d ++ t).Perm m ∧ sl = .slice (some ⟨w.heap.size, 0, none⟩) d.length ln ∧ wr.ownsRow w.heap.size 69 5 (.slice (some ⟨w.heap.size, 0, none⟩) d.length ln) d.length (flatN d) ∧ RangeL Tryz.prog 104 wr b r (m.map entN) (t.map entN) ∧ Below w.heap.size w wr) (fun _ wr => wr.rangeLeft b r)
  case atStart => exact ⟨[], m, List.Perm.refl _, rfl, hown0, hrg0, hb0⟩
  case round =>
    obtain ⟨d, t, hp, rfl, hown, hrg, hb⟩ := hrel
    have hdl : d.length + t.length = ln := by rw [HL.out]; have := hp.length_eq; simpa using this
    go_wp2_with (at_next; refine wpK_next rfl _ rfl b r _ t rfl hrg ?_ ?_)
    · intro ht
      subst ht
      have hdn : d.length = ln := by simpa using hdl
      have hpd : d.Perm m := by simpa using hp
      have HPD : Hid (d.Perm m) := hpd
      have hH := own_holdsN hown
      have hlt := (hown.lt w.heap.size rfl).2
      have hcall := HO.out w.heap.size ln d wr (by omega) hH hlt
      have HC : Hid (Calls Tryz.prog 83 _ _ _) := hcall
      have HH : Hid (HoldsK encN 5 wr w.heap.size 0 d.toArray) := hH
      have HD : Hid (d.length = ln) := hdn
      clear hH hcall hown hrg hp hpd hdl hdn
      go_wp2_with (go_at_call 83; refine HC.out.mono ?_; rintro e w2 ⟨rfl, d', q, os, hq, hs, rfl⟩)
      go_ret
      refine ⟨w.heap.size, ln, by rw [← HL.out]; show Ending.returned (Value.slice _ d.length ln) = _; rw [HD.out], Nat.le_refl _, rowN_holds (sorted_is HW.out.sorted HPD.out hq hs) (SWK.holds ⟨q, os, rfl⟩ hlt HH.out hq.1), hb.trans (below_sortN wr w.heap.size 0 q d' os hb.size (Nat.le_refl _))⟩
    · intro za zr zb zc zn t' w1 hp1 hrg1 hg1 hs1 hen
      have hb1 := grown_below hb (Nat.le_of_lt HR.out) hg1
      have hown1 := hown.kept hg1 (Or.inr (by simp [Value.ownBlock]; have := HR.out; omega))
      have HP : Hid (((d ++ [((za, zr, zb), zc, zn)]) ++ t').Perm m) := by
        show _
        rw [List.append_assoc]
        exact ((hp1.symm.append_left d)).trans hp
      have HM : Hid (wr.rangeLeft b r = (t'.map entN).length + 1) := by
        show _ = _
        rw [hrg.left_eq]
        have := hp1.length_eq
        simpa using this
      have hroom : d.length + 1 ≤ ln := by have := hp1.length_eq; simp at this; omega
      have hown2 := fun o o' => (hown1.alloc o).alloc o'
      have hrg2 := fun o o' => (hrg1.kept (World.grownBy_alloc w1 o none) (by simp) (by simp)).kept (World.grownBy_alloc (w1.alloc o) o' none) (by simp) (by simp)
      have hb2 := fun o o' => (hb1.alloc hb1.size o).alloc (by have := hb1.size; simp; omega) o'
      have hne : Hid (w.heap.size ≠ b ∧ w.heap.size ≠ r) := by have := HB.out; have := HR.out; exact ⟨by omega, by omega⟩
      clear hp hp1 hrg hrg1 hg1 hb hown hown1 hb1 hdl
      go_wp2_with (at_builtin; refine wpList_append_fits _ rfl _ _ 28 rfl w.heap.size 69 i0 5 Tryz.underlying28 hi hz1 w.heap.size d.length ln (flatN d) rfl (hown2 _ _) ⟨w1.heap.size + 1, 0, none⟩ 1 1 (encN ((za, zr, zb), zc, zn)) (by simp [Act.eval]) rfl (encN_cells _ ((za, zr, zb), zc, zn) _ _ (by simp)) (encN_one _) hroom ?_; intro w3 hown3 hgr3)
      go_roundw
      case rel =>
        refine ⟨d ++ [((za, zr, zb), zc, zn)], t', HP.out, by simp, ?_, (hrg2 _ _).kept hgr3 (by simp; exact fun e => hne.out.1 e.symm) (by simp; exact fun e => hne.out.2 e.symm), ?_⟩
        · rw [flatN_snoc]; simpa using hown3
        · exact (hb2 _ _).trans (Below.mono (B := w.heap.size) ⟨hgr3.os, hgr3.tape, hgr3.output, hgr3.size, fun k hk => hgr3.block k (by have := (hb2 (.cells #[.string za, .int .i64 zr, .int .i64 zb, .string zc] 104) (.cells #[.string za, .int .i64 zr, .int .i64 zb, .string zc, .int .i64 zn] 69)).size; omega) (by simp; omega)⟩ (Nat.le_refl _))
      case measure =>
        show World.rangeLeft _ _ _ < _
        have e3 := ((hrg2 _ _).kept hgr3 (by simp; exact fun e => hne.out.1 e.symm) (by simp; exact fun e => hne.out.2 e.symm)).left_eq
        rw [HM.out, e3]
        exact Nat.lt_succ_self _
end Go.Proofs.YtcipbkaopnaiiabGreatDoor
