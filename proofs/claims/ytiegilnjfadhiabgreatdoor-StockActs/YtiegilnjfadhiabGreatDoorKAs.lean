/-
  What AsStock answers of a stock and the reference's stock that have the same lines: 1; nothing old is turned.
-/
import Derived.Test.YtiegilnjfadhiabGreatDoorKRefText
import Derived.Lib.QuietBelow
namespace Go.Proofs.YtiegilnjfadhiabGreatDoor
open Go.RowKit Go.Lib Go.Sort

theorem Tryz.guardN : Tryz.prog.eqGuardType Tryz.prog.depth 55 = false := by kernel_rfl
theorem eqP9_run (x : Pl) (w : World) : (Op.equalIn 9999 41 (.agg #[.string x.1, .int .i64 x.2.1, .int .i64 x.2.2]) (.agg #[.string x.1, .int .i64 x.2.1, .int .i64 x.2.2])).run Tryz.prog w = .ok true w := by
  obtain ⟨a, r, b⟩ := x
  have u3 := Tryz.underlying3
  have a3 := Tryz.isAgg3
  have z3 := Tryz.sizeOf3
  have u9 := Tryz.underlying9
  have a9 := Tryz.isAgg9
  have z9 := Tryz.sizeOf9
  have hS : Tryz.prog.underlying 41 = some (.struct (Tryz.prog.fieldsOf 41)) := by kernel_rfl
  have hp : Tryz.prog.stoodInHeld 41 = false := by kernel_rfl
  rw [show (9999 : Nat) = 9998 + 1 from rfl, run_equalIn_agg w 9998 41 _ _ hS hp]
  simp only [Program.fieldsOf, Tryz.underlying41]
  go_simp
theorem eqN_run (x : Ln) (w : World) : (Op.equalIn 10000 55 (agN x) (agN x)).run Tryz.prog w = .ok true w := by
  have hP := eqP9_run x.1
  obtain ⟨⟨a, r, b⟩, c, n⟩ := x
  unfold agN
  simp only at hP ⊢
  have u3 := Tryz.underlying3
  have a3 := Tryz.isAgg3
  have z3 := Tryz.sizeOf3
  have u9 := Tryz.underlying9
  have a9 := Tryz.isAgg9
  have z9 := Tryz.sizeOf9
  have a41 := Tryz.isAgg41
  have z41 := Tryz.sizeOf41
  have hS : Tryz.prog.underlying 55 = some (.struct (Tryz.prog.fieldsOf 55)) := by kernel_rfl
  have hp : Tryz.prog.stoodInHeld 55 = false := by kernel_rfl
  rw [show (10000 : Nat) = 9999 + 1 from rfl, run_equalIn_agg w 9999 55 _ _ hS hp]
  simp only [Program.fieldsOf, Tryz.underlying55]
  go_simp
set_option maxRecDepth 100000 in
set_option maxHeartbeats 8000000 in
/-- AsStock. -/
theorem asStock_any (w : World) (s : Nat → Addr) (p b : Nat) (m : List Ln) (v : Value) (hi : IsStock w p b m) (hr : RefS w v m) (hO : Old6 w s) :
    Calls Tryz.prog 9 #[.pointer (some ⟨p, 0, none⟩), .agg #[v]] w fun e w' => e = .returned (.int .i64 1) ∧ Below w.heap.size w w' := by
  have hB : Below w.heap.size w (w.alloc (.cells #[v] 30)) := (Below.refl _ w).alloc (Nat.le_refl _) _
  have hv : (w.alloc (.cells #[v] 30)).cell? ⟨w.heap.size, 0, none⟩ = some v := by rw [World.cell?_alloc_at _ _ _ _ rfl]; rfl
  have hL := lines_any _ p b m (hi.all hB)
  have h200 := hi.wf.len
  have hwf := hi.wf
  have HI : Hid (∀ w1, Below w.heap.size w w1 → IsStock w1 p b m) := fun w1 hb => hi.all hb
  obtain ⟨ao, cap, rfl, hsh⟩ := hr.shape
  have HSh : Hid (∀ k l, m[k]? = some l → ∃ g, ao = some ⟨g, 0, none⟩ ∧ g < w.heap.size ∧ LineAt w g (k * 5) l) := hsh
  have HTx : Hid (∀ w1, Below w.heap.size w w1 → Calls Tryz.prog 10 #[.pointer (some ⟨p, 0, none⟩)] w1 fun e w' => e = .returned (.string (txt m)) ∧ Below w1.heap.size w1 w') := fun w1 hb => (lawText hO w1 p b m (hi.all hb) hb).mono fun _ _ ⟨he, _, _, hb'⟩ => ⟨he, hb'⟩
  have HRt : Hid (∀ w1, Below w.heap.size w w1 → Calls Tryz.prog 34 #[.agg #[.slice ao m.length cap]] w1 fun e w' => e = .returned (.string (txt m)) ∧ Below w1.heap.size w1 w') := fun w1 hb => refText_any _ m w1 (hr.all hb) hwf
  have HOf : Hid (∀ c w1, Below w.heap.size w w1 → Calls Tryz.prog 22 #[.pointer (some ⟨p, 0, none⟩), .string c] w1 fun e w' => e = .returned (.int .i64 (ofL m c)) ∧ Below w1.heap.size w1 w') := fun c w1 hb => of_any c w1 p b m (hi.all hb)
  have HRo : Hid (∀ c w1, Below w.heap.size w w1 → Calls Tryz.prog 23 #[.agg #[.slice ao m.length cap], .string c] w1 fun e w' => e = .returned (.int .i64 (ofL m c)) ∧ Below w1.heap.size w1 w') := fun c w1 hb => refOf_any _ m c w1 (hr.all hb) hwf
  have HB : Hid (Below _ _ _) := hB
  have HV : Hid (_ = some (Value.slice ao m.length cap)) := hv
  have HL : Hid (Calls Tryz.prog 33 _ _ _) := hL
  clear hi hr hO hsh hwf hB hL
  generalize hln : m.length = ln at *
  have HN : Hid (ln = m.length) := hln.symm
  clear hln
  go_enter Tryz.func9, Tryz.ntmps9
  go_wp2_with (go_at_call 33; refine HL.out.mono ?_; rintro e w1 ⟨g, cp, rfl, hg, hrow, hb1⟩; have hbw1 := HB.out.trans (hb1.mono HB.out.size))
  have hv1 : w1.cell? ⟨w.heap.size, 0, none⟩ = some (.slice ao ln cap) := (hb1.cell (p := ⟨w.heap.size, 0, none⟩) (by simp)).trans HV.out
  have hHW : Hid (w.heap.size < w1.heap.size) := by have := hb1.size; simp at this; show _ < _; omega
  have k0 := cell_regrown hv1
  have hbR : ∀ d os, Below w.heap.size w (grow (redrawn w1 d) os) := fun d os => hbw1.trans ((below_regrown w1 d os).mono hbw1.size)
  have cT := fun d os => Calls.regrown_of (w := w1) (d := d) (os := os) (HTx.out _ (hbR d os))
  have cR := fun d os => Calls.regrown_of (w := w1) (d := d) (os := os) (HRt.out _ (hbR d os))
  have HRow : Hid (RowN w1 g m) := hrow
  have HBW1 : Hid (Below w.heap.size w w1) := hbw1
  have HV1 : Hid (_ = some (Value.slice ao ln cap)) := hv1
  clear hrow hg hb1 hbw1 hv hv1 HL
  generalize txt m = tm at *
  refine wp_region_quiet_below (by kernel_rfl) (by kernel_rfl) ?_
  repeat (quiet_step (first | (go_at_call 10; exact cT _ _) | (go_at_call 34; exact cR _ _)))
  refine wpQuiet_nil ?_
  intro _ hw'
  obtain ⟨⟨dq, osq⟩, hw''⟩ := hw'
  subst hw''
  have hbE := below_regrown w1 dq osq
  generalize grow (redrawn w1 dq) osq = W2 at *
  clear cT cR k0 hbR
  go_wp2
  go_loopw [6] (fun i wr => ∃ k : Nat, k ≤ ln ∧ i = .int .i64 k ∧ Below w1.heap.size w1 wr) (fun i _ => ln - (RowKit.intOf i).toNat)
  case atStart => exact ⟨0, Nat.zero_le _, rfl, hbE⟩
  case round =>
    clear hbE
    obtain ⟨k, hk, rfl, hwr⟩ := hrel
    by_cases hlt : k < ln
    · have hkm : k < m.length := by rw [← HN.out]; exact hlt
      obtain ⟨l, hl⟩ : ∃ l, m[k]? = some l := ⟨_, List.getElem?_eq_getElem hkm⟩
      obtain ⟨g2, rfl, hg2, hline2⟩ := HSh.out k l hl
      obtain ⟨c0, c1, c2, c3, c4⟩ := HRow.out.below hwr k l hl
      have hbw := HBW1.out.trans (hwr.mono HBW1.out.size)
      obtain ⟨d0, d1, d2, d3, d4⟩ := hline2.below hbw
      have hvr : wr.cell? ⟨w.heap.size, 0, none⟩ = some (.slice (some ⟨g2, 0, none⟩) ln cap) := by rw [hwr.cell (p := ⟨w.heap.size, 0, none⟩) hHW.out]; exact HV1.out
      have hE := fun W => eqN_run l W
      have hG := Tryz.guardN
      clear hl hkm hline2 hg2
      obtain ⟨⟨la, lr, lb⟩, lc, lnn⟩ := l
      unfold agN at hE
      simp only at c0 c1 c2 c3 c4 d0 d1 d2 d3 d4 hE
      have j0 := cell_regrown c0
      have j1 := cell_regrown c1
      have j2 := cell_regrown c2
      have j3 := cell_regrown c3
      have j4 := cell_regrown c4
      have i0 := cell_regrown d0
      have i1 := cell_regrown d1
      have i2 := cell_regrown d2
      have i3 := cell_regrown d3
      have i4 := cell_regrown d4
      have iv := cell_regrown hvr
      have hbR : ∀ d os, Below w.heap.size w (grow (redrawn wr d) os) := fun d os => hbw.trans ((below_regrown wr d os).mono hbw.size)
      have cT := fun d os => Calls.regrown_of (w := wr) (d := d) (os := os) (HOf.out lc _ (hbR d os))
      have cR := fun d os => Calls.regrown_of (w := wr) (d := d) (os := os) (HRo.out lc _ (hbR d os))
      clear c0 c1 c2 c3 c4 d0 d1 d2 d3 d4 hvr
      generalize ofL m lc = O at *
      go_wp2
      refine wp_region_quiet_below (by kernel_rfl) (by kernel_rfl) ?_
      repeat (quiet_step (first | (go_at_call 22; exact cT _ _) | (go_at_call 23; exact cR _ _)))
      refine wpQuiet_nil ?_
      intro _ hw'
      obtain ⟨⟨dz, osz⟩, hw''⟩ := hw'
      subst hw''
      have hbE := hwr.trans ((below_regrown wr dz osz).mono hwr.size)
      go_wp2
      go_roundw
      case rel => exact ⟨k + 1, by omega, by go_num, hbE⟩
      case measure => simp [RowKit.intOf]; omega
    · go_wp2
      go_ret
      exact ⟨rfl, HBW1.out.trans (hwr.mono HBW1.out.size)⟩
end Go.Proofs.YtiegilnjfadhiabGreatDoor
