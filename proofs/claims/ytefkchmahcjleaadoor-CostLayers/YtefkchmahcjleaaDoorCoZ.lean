/-
  What the reference's Text answers: each layer as a word, a blank between.
-/
import Derived.Test.YtefkchmahcjleaaDoorCoQ
import Derived.Test.YtefkchmahcjleaaDoorCoT
import Derived.Test.YtefkchmahcjleaaDoorRef
namespace Go.Proofs.YtefkchmahcjleaaDoor
open Go.RowKit Go.Lib Go.Sort

def txB (m : List Ly) : ByteArray := ⟨(textY m).toArray⟩
/-- What stands ahead of a word. -/
def preB (m : List Ly) (k : Nat) : ByteArray := if k = 0 then ⟨#[]⟩ else txB (m.take k) ++ ⟨#[32]⟩
theorem txB_succ {m : List Ly} {k : Nat} {x : Ly} (h : m[k]? = some x) : txB (m.take (k + 1)) = preB m k ++ wordB x := by
  have hlt := (List.getElem?_eq_some_iff.1 h).1
  unfold txB preB wordB
  have e : m.take (k + 1) = m.take k ++ [x] := by rw [List.take_add_one, h]; rfl
  rw [e, textY_snoc]
  by_cases h0 : k = 0
  · subst h0
    rw [if_pos (by simp), if_pos rfl]
    apply ByteArray.ext
    simp
  · rw [if_neg (by intro e9; have := congrArg List.length e9; rw [List.length_take, List.length_nil] at this; omega), if_neg h0]
    have e2 : (⟨#[32]⟩ : ByteArray) = ⟨([32] : List UInt8).toArray⟩ := rfl
    unfold txB
    rw [e2, str_append, str_append]
    simp
theorem txB_size {m : List Ly} (h : LyOk m) (hl : m.length ≤ 1000) (k : Nat) : (txB (m.take k)).size ≤ 22000 := by
  have h1 := textY_len (m.take k) fun x hx => wordY_len h (List.mem_of_mem_take hx)
  have h2 := List.length_take_le' k m
  unfold txB
  rw [← size_len, bytes_toList]
  omega
theorem preB_size {m : List Ly} (h : LyOk m) (hl : m.length ≤ 1000) (k : Nat) : (preB m k).size ≤ 22001 := by
  unfold preB
  have h1 := txB_size h hl k
  have e : (⟨#[32]⟩ : ByteArray).size = 1 := rfl
  by_cases h0 : k = 0
  · rw [if_pos h0]; decide
  · rw [if_neg h0, ByteArray.size_append, e]; omega
theorem joins3 (o a d : ByteArray) (ho : o.size ≤ 22001) (ha : a.size ≤ 13) (hd : d.size ≤ 13) : ∃ t1 t2 : ByteArray, (∀ w, (Op.stringOp .add o a).run Tryd.prog w = .ok (.string t1) w) ∧ (∀ w, (Op.stringOp .add t1 ⟨#[64]⟩).run Tryd.prog w = .ok (.string t2) w) ∧ (∀ w, (Op.stringOp .add t2 d).run Tryd.prog w = .ok (.string (o ++ ((a ++ ⟨#[64]⟩) ++ d))) w) := by
  have e : (⟨#[64]⟩ : ByteArray).size = 1 := rfl
  have e9 : o ++ ((a ++ ⟨#[64]⟩) ++ d) = ((o ++ a) ++ ⟨#[64]⟩) ++ d := by simp only [ByteArray.append_assoc]
  rw [e9]
  refine ⟨_, _, fun w => run_string_add_sum w _ _ ?_, fun w => run_string_add_sum w _ _ ?_, fun w => run_string_add_sum w _ _ ?_⟩
  all_goals
    (try simp only [ByteArray.size_append, e])
    omega
set_option maxHeartbeats 8000000 in
set_option maxRecDepth 100000 in
/-- The reference's Text. -/
theorem rtext_any (w : World) (B q : Nat) (m : List Ly) (h : RefY w B q m) (hok : LyOk m) (hlen : m.length ≤ 1000) :
    Calls Tryd.prog 17 #[ptrK q] w fun e w' => e = .returned (.string ⟨(textY m).toArray⟩) ∧ Below w.heap.size w w' := by
  obtain ⟨a, c, _, _, hl⟩ := h.later
  have HL : Hid (∀ W, Below w.heap.size w W → _) := hl
  have HK : Hid (LyOk m) := hok
  have HPs : Hid (∀ k, (preB m k).size ≤ 22001 ∧ (txB (m.take k)).size ≤ 22000) := fun k => ⟨preB_size hok hlen k, txB_size hok hlen k⟩
  obtain ⟨ln, hln⟩ : ∃ ln, m.length = ln := ⟨_, rfl⟩
  have HLn : Hid (m.length = ln) := hln
  rw [hln] at hlen HL
  clear h hok hl hln
  go_enter Tryd.func17, Tryd.ntmps17
  go_wp2
  go_loopw [3, 4] (fun vs vi wr => ∃ k : Nat, k ≤ ln ∧ vi = .int .i64 k ∧ vs = .string (txB (m.take k)) ∧ Below w.heap.size w wr) (fun _ vi _ => ln - (RowKit.intOf vi).toNat)
  case atStart => exact ⟨0, Nat.zero_le _, rfl, rfl, Below.refl _ _⟩
  case round =>
    obtain ⟨k, hk, rfl, rfl, hwr⟩ := hrel
    obtain ⟨c0, hc⟩ := HL.out wr hwr
    by_cases hlt : k < ln
    · obtain ⟨x, hx⟩ : ∃ x, m[k]? = some x := ⟨_, List.getElem?_eq_getElem (by rw [HLn.out]; exact hlt)⟩
      obtain ⟨g, rfl, c1, c2⟩ := hc k x hx
      have HE : Hid (txB (m.take (k + 1)) = preB m k ++ wordB x) := txB_succ hx
      have hbR : ∀ d os, Below w.heap.size w (grow (redrawn wr d) os) := fun d os => hwr.trans ((below_regrown wr d os).mono hwr.size)
      have k0 := cell_regrown c0
      have k1 := cell_regrown c1
      have k2 := cell_regrown c2
      obtain ⟨x1, x2, x3⟩ := HK.out.pos x (List.mem_of_getElem? hx)
      have hxq : x.1 ≤ 1099511627776 := by
        have h1 := hasY_take HK.out.pos (k + 1)
        have h2 := hasY_take HK.out.pos k
        have h3 := hasY_succ hx
        have := HK.out.most
        omega
      have hw1 : (⟨(decDigits x.1.toNat).toArray⟩ : ByteArray).size ≤ 13 := by rw [← size_len, bytes_toList]; exact dec_len 13 (by decide) (by omega)
      have hw2 : (⟨(decDigits x.2.toNat).toArray⟩ : ByteArray).size ≤ 13 := by rw [← size_len, bytes_toList]; exact dec_len 13 (by decide) (by omega)
      obtain ⟨p1, p2⟩ := HPs.out k
      obtain ⟨t1, t2, s1, s2, s3⟩ := joins3 (preB m k) _ _ p1 hw1 hw2
      rw [wordB_eq] at s3
      have cI1 := fun d os => Calls.regrown_of (w := wr) (d := d) (os := os) (refDecimal x.1 (by omega) (by omega) (grow (redrawn wr d) os))
      have cI2 := fun d os => Calls.regrown_of (w := wr) (d := d) (os := os) (refDecimal x.2 x2 (by omega) (grow (redrawn wr d) os))
      have HBR : Hid (∀ d os, Below w.heap.size w (grow (redrawn wr d) os)) := hbR
      have HPr : Hid (preB m k = if k = 0 then ⟨#[]⟩ else txB (m.take k) ++ ⟨#[32]⟩) := rfl
      generalize (⟨(decDigits x.1.toNat).toArray⟩ : ByteArray) = td1 at *
      generalize (⟨(decDigits x.2.toNat).toArray⟩ : ByteArray) = td2 at *
      generalize wordB x = wd at *
      obtain ⟨o2, ho2⟩ : ∃ o2, preB m k ++ wd = o2 := ⟨_, rfl⟩
      rw [ho2] at s3 HE
      clear hx hc hwr hw1 hw2 ho2 hbR
      obtain ⟨xa, xb⟩ := x
      simp only at *
      by_cases hk0 : k = 0
      · have hpr : preB m k = ⟨#[]⟩ := by rw [HPr.out, if_pos hk0]
        have htx : txB (m.take k) = ⟨#[]⟩ := by subst hk0; rfl
        rw [hpr] at s1
        rw [htx]
        subst hk0
        clear hpr htx HPr p1 p2
        go_wp2
        refine wp_region_quiet_below (by kernel_rfl) (by kernel_rfl) ?_
        repeat (quiet_step (first | (go_at_call_of 25 (Value.int .i64 xa); exact cI1 _ _) | (go_at_call_of 25 (Value.int .i64 xb); exact cI2 _ _)))
        refine wpQuiet_nil ?_
        intro _ hw'
        obtain ⟨⟨dq, osq⟩, hw''⟩ := hw'
        subst hw''
        have HBE : Hid (Below w.heap.size w (grow (redrawn wr dq) osq)) := HBR.out dq osq
        generalize grow (redrawn wr dq) osq = WE at *
        clear cI1 cI2 k0 k1 k2
        go_wp2
        go_roundw
        case rel => exact ⟨1, by omega, by go_num, by rw [HE.out], HBE.out⟩
        case measure => simp [RowKit.intOf]; omega
      · have hpr : preB m k = txB (m.take k) ++ ⟨#[32]⟩ := by rw [HPr.out, if_neg hk0]
        have s0 : ∀ w, (Op.stringOp .add (txB (m.take k)) ⟨#[32]⟩).run Tryd.prog w = .ok (.string (preB m k)) w := fun w => by
          rw [hpr]
          refine run_string_add_sum w _ _ ?_
          have e : (⟨#[32]⟩ : ByteArray).size = 1 := rfl
          rw [e]; omega
        have hk1 : (0 : Int) < k := by omega
        generalize preB m k = pb at *
        generalize txB (m.take k) = tb at *
        clear hpr HPr hk0
        go_wp2
        refine wp_region_quiet_below (by kernel_rfl) (by kernel_rfl) ?_
        repeat (quiet_step (first | (go_at_call_of 25 (Value.int .i64 xa); exact cI1 _ _) | (go_at_call_of 25 (Value.int .i64 xb); exact cI2 _ _)))
        refine wpQuiet_nil ?_
        intro _ hw'
        obtain ⟨⟨dq, osq⟩, hw''⟩ := hw'
        subst hw''
        have HBE : Hid (Below w.heap.size w (grow (redrawn wr dq) osq)) := HBR.out dq osq
        generalize grow (redrawn wr dq) osq = WE at *
        clear cI1 cI2 k0 k1 k2
        go_wp2
        go_roundw
        case rel => exact ⟨k + 1, by omega, by go_num, by rw [HE.out], HBE.out⟩
        case measure => simp [RowKit.intOf]; omega
    · have e : m.take k = m := List.take_of_length_le (by rw [HLn.out]; omega)
      rw [e]
      clear hc
      go_wp2
      go_ret
      exact ⟨rfl, hwr⟩
end Go.Proofs.YtefkchmahcjleaaDoor
