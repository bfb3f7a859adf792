/-
  What the reference's LineText and Text answer: the lines' texts; nothing old is turned.
-/
import Derived.Test.YtiegilnjfadhiabGreatDoorKRefW
import Derived.Test.YtiegilnjfadhiabGreatDoorKActs
import Derived.Test.YtiegilnjfadhiabGreatDoorPRefText
namespace Go.Proofs.YtiegilnjfadhiabGreatDoor
open Go.RowKit Go.Lib Go.Sort

/-- A line's text, without its end. -/
def lineT (l : Ln) : ByteArray := (((ptext l.1 ++ ⟨#[32]⟩) ++ l.2.1) ++ ⟨#[32]⟩) ++ ⟨(decDigits l.2.2.toNat).toArray⟩
theorem lineT_bytes (l : Ln) : (lineT l).data.toList = lineB l := by
  unfold lineT lineB pbytes
  simp only [append_bytes]
  simp
theorem joins4 (a c d : ByteArray) (ha : a.size ≤ 36) (hc : c.size ≤ 8) (hd : d.size ≤ 13) : ∃ t1 t2 t3 : ByteArray,
    (∀ w, (Op.stringOp .add a ⟨#[32]⟩).run Tryz.prog w = .ok (.string t1) w) ∧ (∀ w, (Op.stringOp .add t1 c).run Tryz.prog w = .ok (.string t2) w) ∧ (∀ w, (Op.stringOp .add t2 ⟨#[32]⟩).run Tryz.prog w = .ok (.string t3) w) ∧
    (∀ w, (Op.stringOp .add t3 d).run Tryz.prog w = .ok (.string ((((a ++ ⟨#[32]⟩) ++ c) ++ ⟨#[32]⟩) ++ d)) w) := by
  have e : (⟨#[32]⟩ : ByteArray).size = 1 := rfl
  refine ⟨_, _, _, fun w => run_string_add_sum w _ _ ?_, fun w => run_string_add_sum w _ _ ?_, fun w => run_string_add_sum w _ _ ?_, fun w => run_string_add_sum w _ _ ?_⟩
  all_goals
    simp only [ByteArray.size_append, e]
    omega
set_option maxRecDepth 100000 in
set_option maxHeartbeats 2000000 in
/-- LineText. -/
theorem lineText_any (l : Ln) (w : World) (hok : okN l) :
    Calls Tryz.prog 61 #[agN l] w fun e w' => e = .returned (.string (lineT l)) ∧ Below w.heap.size w w' := by
  have hP := fun w1 => placeText_in l.1 w1 (by have := name_short (okP_bounds hok.1).1; unfold maxLen; omega) hok.1
  have hD := fun w1 => refDecimal l.2.2 (by have := hok.2.2.1; omega) (by have := hok.2.2.2; omega) w1
  obtain ⟨t1, t2, t3, s1, s2, s3, s4⟩ := joins4 (ptext l.1) l.2.1 ⟨(decDigits l.2.2.toNat).toArray⟩ (ptext_size hok.1) (name_short hok.2.1) (dec_size _ (by have := hok.2.2; omega))
  have hB : Below w.heap.size w (w.alloc (.cells #[.string l.1.1, .int .i64 l.1.2.1, .int .i64 l.1.2.2, .string l.2.1, .int .i64 l.2.2] 55)) := (Below.refl _ w).alloc (Nat.le_refl _) _
  obtain ⟨c0, c1, c2, c3, c4⟩ := LineAt.new w l 55 _ rfl
  unfold lineT
  clear hok
  obtain ⟨⟨a, r, bb⟩, c, n⟩ := l
  unfold agN agP at *
  simp only [Nat.zero_add] at *
  generalize ((((ptext (a, r, bb) ++ ⟨#[32]⟩) ++ c) ++ ⟨#[32]⟩) ++ ⟨(decDigits n.toNat).toArray⟩ : ByteArray) = t4 at *
  generalize ptext (a, r, bb) = tp at *
  generalize (⟨(decDigits n.toNat).toArray⟩ : ByteArray) = td at *
  have k0 := cell_regrown c0
  have k1 := cell_regrown c1
  have k2 := cell_regrown c2
  have k3 := cell_regrown c3
  have k4 := cell_regrown c4
  have HB : Hid (Below _ _ _) := hB
  clear c0 c1 c2 c3 c4 hB
  go_enter Tryz.func61, Tryz.ntmps61
  go_wp2
  generalize w.alloc (.cells #[.string a, .int .i64 r, .int .i64 bb, .string c, .int .i64 n] 55) = W at *
  have cP := fun d os => Calls.regrown_of (w := W) (d := d) (os := os) (hP _)
  have cD := fun d os => Calls.regrown_of (w := W) (d := d) (os := os) (hD _)
  clear hP hD
  refine wp_region_quiet_below (by kernel_rfl) (by kernel_rfl) ?_
  repeat (quiet_step (first | (go_at_call 80; exact cP _ _) | (go_at_call 81; exact cD _ _)))
  refine wpQuiet_nil ?_
  intro _ hw'
  obtain ⟨⟨dq, osq⟩, hw''⟩ := hw'
  subst hw''
  have hbE := HB.out.trans ((below_regrown W dq osq).mono HB.out.size)
  go_wp2
  go_ret
  exact ⟨rfl, hbE⟩
theorem txt_step {m : List Ln} {k : Nat} {l : Ln} (hl : m[k]? = some l) : (txt (m.take k) ++ lineT l) ++ ⟨#[10]⟩ = txt (m.take (k + 1)) := by
  have h1 : ∀ a b : ByteArray, a.data.toList = b.data.toList → a = b := fun a b h => by cases a; cases b; simp at h; rw [h]
  apply h1
  rw [append_bytes, append_bytes, lineT_bytes]
  unfold txt
  rw [bytes_toList, bytes_toList, textB_take_succ hl]
  simp
theorem txt_size (m : List Ln) : (txt m).size = (textB m).length := mk_size _
set_option maxRecDepth 100000 in
set_option maxHeartbeats 4000000 in
/-- Text. -/
theorem refText_any (v : Value) (m : List Ln) (w : World) (h : RefS w v m) (hw : Wf m) :
    Calls Tryz.prog 34 #[.agg #[v]] w fun e w' => e = .returned (.string (txt m)) ∧ Below w.heap.size w w' := by
  have hB : Below w.heap.size w (w.alloc (.cells #[v] 30)) := (Below.refl _ w).alloc (Nat.le_refl _) _
  have hv : (w.alloc (.cells #[v] 30)).cell? ⟨w.heap.size, 0, none⟩ = some v := by rw [World.cell?_alloc_at _ _ _ _ rfl]; rfl
  obtain ⟨ao, cap, rfl, hsh⟩ := (h.all hB).shape
  have h200 := hw.len
  have HW : Hid (Wf m) := hw
  clear h hw
  generalize hln : m.length = ln at *
  have HN : Hid (ln = m.length) := hln.symm
  clear hln
  have HB : Hid (Below _ _ _) := hB
  have HS : Hid (∀ k l, m[k]? = some l → _) := hsh
  have HV : Hid (_ = some (Value.slice ao ln cap)) := hv
  have HL0 : Hid (w.heap.size < (w.alloc (.cells #[.slice ao ln cap] 30)).heap.size) := by show _ < _; simp
  have et : txt (m.take 0) = ⟨#[]⟩ := rfl
  clear hB hsh
  go_enter Tryz.func34, Tryz.ntmps34
  go_wp2
  generalize w.alloc (.cells #[.slice ao ln cap] 30) = W at *
  go_loopw [3, 4] (fun sv i wr => ∃ k : Nat, k ≤ ln ∧ i = .int .i64 k ∧ sv = .string (txt (m.take k)) ∧ Below W.heap.size W wr) (fun _ i _ => ln - (RowKit.intOf i).toNat)
  case atStart => exact ⟨0, Nat.zero_le _, rfl, by rw [et], Below.refl _ _⟩
  case round =>
    clear et
    obtain ⟨k, hk, rfl, rfl, hwr⟩ := hrel
    have hvr : wr.cell? ⟨w.heap.size, 0, none⟩ = some (.slice ao ln cap) := by rw [hwr.cell (p := ⟨w.heap.size, 0, none⟩) HL0.out]; exact HV.out
    by_cases hlt : k < ln
    · have hkm : k < m.length := by rw [← HN.out]; exact hlt
      obtain ⟨l, hl⟩ : ∃ l, m[k]? = some l := ⟨_, List.getElem?_eq_getElem hkm⟩
      obtain ⟨g, rfl, hg, hline⟩ := HS.out k l hl
      obtain ⟨c0, c1, c2, c3, c4⟩ := hline.below hwr
      have hok := HW.out.okN l (List.mem_of_getElem? hl)
      have hT := fun w1 => lineText_any l w1 hok
      have HE : Hid ((txt (m.take k) ++ lineT l) ++ ⟨#[10]⟩ = txt (m.take (k + 1))) := txt_step hl
      have z1 : (txt (m.take k)).size ≤ 12000 := by rw [txt_size]; exact textB_take_len HW.out k
      have z2 : (lineT l).size ≤ 59 := by rw [← size_len, lineT_bytes]; exact lineB_len hok
      have z3 : (txt (m.take k) ++ lineT l).size ≤ 12059 := by rw [ByteArray.size_append]; omega
      clear hl hkm hline hok
      generalize lineT l = tl at *
      generalize txt (m.take k) = tk at *
      obtain ⟨⟨la, lr, lb⟩, lc, lnn⟩ := l
      unfold agN at hT
      simp only at c0 c1 c2 c3 c4 hT
      go_wp2_with (go_at_call 61; refine (hT _).mono ?_; rintro e w2 ⟨rfl, hb2⟩)
      go_roundw
      case rel => exact ⟨k + 1, by omega, by go_num, by rw [← HE.out], hwr.trans (hb2.mono hwr.size)⟩
      case measure => simp [RowKit.intOf]; omega
    · have e : m.take k = m := List.take_of_length_le (by rw [← HN.out]; omega)
      have HE : Hid (txt (m.take k) = txt m) := by show _ = _; rw [e]
      clear e
      generalize txt (m.take k) = tk at *
      go_wp2
      go_ret
      exact ⟨by rw [← HE.out]; rfl, HB.out.trans (hwr.mono HB.out.size)⟩
end Go.Proofs.YtiegilnjfadhiabGreatDoor
