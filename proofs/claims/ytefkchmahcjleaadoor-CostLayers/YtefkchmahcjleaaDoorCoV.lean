/-
  What cost's Worth answers: what all cost together.
-/
import Derived.Test.YtefkchmahcjleaaDoorCoY
namespace Go.Proofs.YtefkchmahcjleaaDoor
open Go.RowKit Go.Lib

theorem Lnk.get {w : World} {v : Value} : ∀ {ks : List Nat} {m : List Ly} {j : Nat} {x : Ly}, Lnk w ks m v → m[j]? = some x → ∃ k, ks.drop j = k :: ks.drop (j + 1) ∧ w.heap[k]? = some (celY x (hdY (ks.drop (j + 1)) v))
  | ks, [], j, x, _, h => by simp at h
  | [], x :: m, j, y, h, _ => absurd h (by intro h; exact h)
  | k :: ks, x :: m, 0, y, h, hx => by
    simp at hx
    subst hx
    exact ⟨k, rfl, h.1⟩
  | k :: ks, x :: m, j + 1, y, h, hx => by
    have := Lnk.get (j := j) h.2 (by simpa using hx)
    simpa using this
theorem worthY_succ {m : List Ly} {j : Nat} {x : Ly} (h : m[j]? = some x) : worthY (m.take (j + 1)) = worthY (m.take j) + x.1 * x.2 := by
  rw [List.take_add_one, h, worthY_app]
  show _ + worthY [x] = _
  rw [worthY_cons, worthY_nil]; omega
theorem worthY_take {m : List Ly} (h : LyOk m) (j : Nat) : 0 ≤ worthY (m.take j) ∧ worthY (m.take j) ≤ 1152921504606846976 := by
  have h1 : PosY (m.take j) := fun x hx => h.pos x (List.mem_of_mem_take hx)
  have h2 := hasY_take h.pos j
  have h3 := h.most
  obtain ⟨h4, h5⟩ := worthY_bound h1
  omega
theorem LyR.step {w : World} {B q : Nat} {ks : List Nat} {m : List Ly} {H : Int} (h : LyR w B q ks m H) {j : Nat} {x : Ly} (hx : m[j]? = some x) : ∃ k, hdY (ks.drop j) nilP = ptrK k ∧ k < w.heap.size ∧ ∀ W, Below w.heap.size w W → W.cell? ⟨k, 0, none⟩ = some (.int .i64 x.1) ∧ W.cell? ⟨k, 1, none⟩ = some (.int .i64 x.2) ∧ W.cell? ⟨k, 2, none⟩ = some (hdY (ks.drop (j + 1)) nilP) := by
  obtain ⟨k, e, hk⟩ := h.lnk.get hx
  have hlt := (Array.getElem?_eq_some_iff.1 hk).1
  refine ⟨k, by rw [e]; rfl, hlt, fun W hb => ?_⟩
  have := (hb.block k hlt).trans hk
  exact ⟨cell_blk this 0, cell_blk this 1, cell_blk this 2⟩
theorem LyR.over {w : World} {B q : Nat} {ks : List Nat} {m : List Ly} {H : Int} (h : LyR w B q ks m H) {j : Nat} (hj : m.length ≤ j) : hdY (ks.drop j) nilP = nilP := by
  rw [List.drop_of_length_le (by rw [h.lnk.len]; exact hj)]; rfl
/-- How many of a chain lie from a pointer on. -/
def posY (ks : List Nat) (v : Value) : Nat := match v with
  | .pointer (some a) => (ks.dropWhile fun k => !decide (k = a.block)).length
  | _ => 0
theorem posY_drop : ∀ {ks : List Nat}, ks.Nodup → ∀ j, posY ks (hdY (ks.drop j) nilP) = ks.length - j
  | [], _, j => by simp [posY, hdY]
  | a :: t, hn, 0 => by simp [posY, hdY]
  | a :: t, hn, j + 1 => by
    obtain ⟨h1, h2⟩ := List.nodup_cons.1 hn
    have ih := posY_drop h2 j
    have e : posY (a :: t) (hdY ((a :: t).drop (j + 1)) nilP) = posY t (hdY (t.drop j) nilP) := by
      rw [List.drop_succ_cons]
      cases hd : t.drop j with
      | nil => rfl
      | cons k r =>
        have hk : k ∈ t := List.mem_of_mem_drop (i := j) (by rw [hd]; exact List.mem_cons_self ..)
        have hne : ¬ a = k := fun e => h1 (e ▸ hk)
        show ((a :: t).dropWhile fun i => !decide (i = k)).length = (t.dropWhile fun i => !decide (i = k)).length
        rw [List.dropWhile_cons, decide_eq_false hne]
        rfl
    rw [e, ih, List.length_cons]
    omega
set_option maxHeartbeats 4000000 in
set_option maxRecDepth 100000 in
/-- Worth. -/
theorem yworth_any (w : World) (B q : Nat) (ks : List Nat) (m : List Ly) (h : LyAt w B q ks m) :
    Calls Tryd.prog 9 #[ptrK q] w fun e w' => e = .returned (.int .i64 (worthY m)) ∧ Below w.heap.size w w' := by
  have HW : Hid (Calls Tryd.prog 20 _ w _) := ywhole_any q w
  have c0 : w.cell? ⟨q, 0, none⟩ = some (hdY ks nilP) := cell_blk h.r.top 0
  have HR : Hid (LyR w B q ks m (hasY m)) := h.r
  have HO : Hid (LyOk m) := h.ok
  have HN : Hid (ks.Nodup) := (List.nodup_cons.1 h.r.nd).2
  have HLe : Hid (ks.length = m.length) := h.r.lnk.len
  clear h
  go_enter Tryd.func9, Tryd.ntmps9
  go_wp2_with (go_at_call 20; refine HW.out.mono ?_; rintro e w1 ⟨rfl, hw⟩; have hw' := hw.symm; subst hw')
  go_loopw [3, 4] (fun vs va wr => ∃ j : Nat, j ≤ m.length ∧ vs = .int .i64 (worthY (m.take j)) ∧ va = hdY (ks.drop j) nilP ∧ Below w.heap.size w wr) (fun _ va _ => posY ks va)
  case atStart => exact ⟨0, Nat.zero_le _, rfl, by rw [List.drop_zero], Below.refl _ _⟩
  case round =>
    obtain ⟨j, hj, rfl, rfl, hwr⟩ := hrel
    by_cases hlt : j < m.length
    · obtain ⟨x, hx⟩ : ∃ x, m[j]? = some x := ⟨_, List.getElem?_eq_getElem hlt⟩
      obtain ⟨k, e, hk, hc⟩ := HR.out.step hx
      have HM : Hid (posY ks (ptrK k) = m.length - j ∧ posY ks (hdY (ks.drop (j + 1)) nilP) = m.length - (j + 1)) := by
        rw [← e, ← HLe.out]
        exact ⟨posY_drop HN.out j, posY_drop HN.out (j + 1)⟩
      have hwd : ∀ d, Below w.heap.size w (wr.drewN d) := fun d => below_drewN hwr d
      have q0 := fun d => (hc _ (hwd d)).1
      have q1 := fun d => (hc _ (hwd d)).2.1
      have q2 := fun d => (hc _ (hwd d)).2.2
      obtain ⟨c1, c2, c3⟩ := hc wr hwr
      have HE : Hid (worthY (m.take (j + 1)) = worthY (m.take j) + x.1 * x.2) := worthY_succ hx
      obtain ⟨w1, w2⟩ := worthY_take HO.out j
      obtain ⟨w3, w4⟩ := worthY_take HO.out (j + 1)
      rw [HE.out] at w3 w4
      obtain ⟨x1, x2, x3⟩ := HO.out.pos x (List.mem_of_getElem? hx)
      have hb := (cost_bound (n := x.1) (by omega) x2 x3).1
      have hb2 : x.1 * x.2 ≤ 1152921504606846976 := by omega
      have HB : Hid (∀ d, Below w.heap.size w (wr.drewN d)) := hwd
      rw [e]
      clear hx hc hwd hwr e
      obtain ⟨xa, xb⟩ := x
      simp only at *
      generalize worthY (m.take j) = S at *
      obtain ⟨vn, hvn⟩ : ∃ vn, hdY (ks.drop (j + 1)) nilP = vn := ⟨_, rfl⟩
      rw [hvn] at c3 q2 HM
      have HV : Hid (hdY (ks.drop (j + 1)) nilP = vn) := hvn
      clear hvn
      go_wp2
      go_quiet (fail)
      have z2 := q2 nq
      have HBE : Hid (Below w.heap.size w (wr.drewN nq)) := HB.out nq
      clear q0 q1 q2 c1 c2 c3 HB
      generalize wr.drewN nq = WE at *
      go_wp2
      go_roundw
      case rel => exact ⟨j + 1, by omega, by rw [HE.out], HV.out.symm, HBE.out⟩
      case measure => show posY ks vn < posY ks (ptrK k); rw [HM.out.1, HM.out.2]; omega
    · have hE := HR.out.over (Nat.le_of_not_lt hlt)
      have e : m.take j = m := List.take_of_length_le (by omega)
      rw [hE, e]
      go_wp2
      go_ret
      exact ⟨rfl, hwr⟩
end Go.Proofs.YtefkchmahcjleaaDoor
