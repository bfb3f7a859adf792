/-
  The reference's stock in memory: its lines lie in a row that nothing else holds; what Find, At, Of and LineAhead answer; nothing old is turned.
-/
import Derived.Test.YtcipbkaopnaiiabGreatDoorKRow
import Derived.Test.YtcipbkaopnaiiabGreatDoorKRefMath
import Derived.Test.YtcipbkaopnaiiabGreatDoorKMove
import Derived.Test.YtcipbkaopnaiiabGreatDoorPIsA
import Derived.Lib.SmallJoins
import Derived.BigQuiet
namespace Go.Proofs.YtcipbkaopnaiiabGreatDoor
open Go.RowKit Go.Lib Go.Sort

/-- The reference's stock: the slice v holds the lines of m. -/
def RefS (w : World) (v : Value) (m : List Ln) : Prop := w.ownsRow 0 69 5 v m.length (flatN m)
theorem RefS.nil (w : World) : RefS w (.slice none 0 0) [] := World.ownsRow_nil w 0 _ 5
theorem RefS.all {w w' : World} {v : Value} {m : List Ln} (h : RefS w v m) (hb : Below w.heap.size w w') : RefS w' v m :=
  h.kept (row := none) ⟨hb.os, hb.tape, hb.output, hb.size, fun k hk _ => hb.block k hk⟩ (by cases e : v.ownBlock with | none => exact Or.inl rfl | some k => exact Or.inr (by simp))
theorem RefS.forms {w : World} {v : Value} {m : List Ln} (h : RefS w v m) : (v = .slice none 0 0 ∧ m = []) ∨ ∃ g cap, v = .slice (some ⟨g, 0, none⟩) m.length cap ∧ g < w.heap.size ∧ RowN w g m := by
  rcases Joins.ownsRow_forms h with ⟨h1, h2⟩ | ⟨g, cap, rfl⟩
  · exact Or.inl ⟨h1, List.eq_nil_of_length_eq_zero h2⟩
  · exact Or.inr ⟨g, cap, rfl, (h.lt g rfl).2, own_rowN h⟩
/-- Where a line stands, as Find answers. -/
def findR (m : List Ln) (k : Sp) : Int := match m.findIdx? (fun l => decide (keyL l = k)) with | some i => (i : Int) | none => -1
theorem findR_none {m : List Ln} {k : Sp} (h : ∀ l ∈ m, keyL l ≠ k) : findR m k = -1 := by
  unfold findR
  rw [List.findIdx?_eq_none_iff.2 (fun l hl => by simpa using h l hl)]
theorem findR_at {m : List Ln} {k : Sp} {i : Nat} {l : Ln} (hl : m[i]? = some l) (hk : keyL l = k) (hno : ∀ y ∈ m.take i, keyL y ≠ k) : findR m k = i := by
  obtain ⟨hi, e⟩ := List.getElem?_eq_some_iff.1 hl
  unfold findR
  rw [List.findIdx?_eq_some_iff_getElem.2 ⟨hi, by rw [e]; simpa using hk, fun j hj => by
    have := hno m[j] (List.mem_take_iff_getElem.2 ⟨j, by omega, rfl⟩)
    simpa using this⟩]
theorem findR_cases (m : List Ln) (k : Sp) : (findR m k = -1 ∧ ∀ l ∈ m, keyL l ≠ k) ∨ ∃ (i : Nat) (l : Ln), findR m k = i ∧ m[i]? = some l ∧ keyL l = k := by
  unfold findR
  cases h : m.findIdx? (fun l => decide (keyL l = k)) with
  | none => exact Or.inl ⟨rfl, fun l hl => by simpa using List.findIdx?_eq_none_iff.1 h l hl⟩
  | some i =>
    obtain ⟨hi, h1, _⟩ := List.findIdx?_eq_some_iff_getElem.1 h
    exact Or.inr ⟨i, m[i], rfl, List.getElem?_eq_getElem hi, by simpa using h1⟩
abbrev boxR (w : World) (v : Value) (x : Pl) : World := (w.alloc (.cells #[v] 30)).alloc (.cells #[.string x.1, .int .i64 x.2.1, .int .i64 x.2.2] 41)
theorem boxR_below (w : World) (v : Value) (x : Pl) : Below w.heap.size w (boxR w v x) := ((Below.refl _ w).alloc (Nat.le_refl _) _).alloc (by simp) _
theorem boxR_cells (w : World) (v : Value) (x : Pl) : (boxR w v x).cell? ⟨w.heap.size, 0, none⟩ = some v ∧ BoxAt (w.heap.size + 1) x (boxR w v x) := by
  refine ⟨?_, BoxAt.new _ x _ _ (by simp)⟩
  rw [((Below.refl _ (w.alloc (.cells #[v] 30))).alloc (Nat.le_refl _) _).cell (p := ⟨w.heap.size, 0, none⟩) (by simp), World.cell?_alloc_at _ _ _ _ rfl]; rfl
theorem keyL_ne_place {l : Ln} {x : Pl} {c : ByteArray} (h : l.1 ≠ x) : keyL l ≠ (x, c) := fun e => h (congrArg Prod.fst e)
theorem keyL_ne_lot {l : Ln} {x : Pl} {c : ByteArray} (h : l.2.1 ≠ c) : keyL l ≠ (x, c) := fun e => h (congrArg Prod.snd e)
theorem take_next {m : List Ln} {k : Nat} {l : Ln} {P : Ln → Prop} (hl : m[k]? = some l) (h : ∀ y ∈ m.take k, P y) (h1 : P l) : ∀ y ∈ m.take (k + 1), P y := by
  obtain ⟨hk, e⟩ := List.getElem?_eq_some_iff.1 hl
  rw [List.take_succ_eq_append_getElem hk, e]
  intro y hy
  rcases List.mem_append.1 hy with hy | hy
  · exact h y hy
  · obtain rfl : y = l := by simpa using hy
    exact h1
set_option maxRecDepth 100000 in
set_option maxHeartbeats 4000000 in
/-- Find. -/
theorem find_any (v : Value) (m : List Ln) (x : Pl) (c : ByteArray) (w : World) (h : RefS w v m) (h200 : m.length ≤ 200) :
    Calls Tryz.prog 50 #[.agg #[v], agP x, .string c] w fun e w' => e = .returned (.int .i64 (findR m (x, c))) ∧ Below w.heap.size w w' := by
  have hB := boxR_below w v x
  obtain ⟨hv, hbx⟩ := boxR_cells w v x
  have hf := (h.all hB).forms
  have hlt0 : w.heap.size + 1 < (boxR w v x).heap.size := by simp
  have hE := fun (l : Ln) W => eqK_run l.1 x W
  have hG := Tryz.guardK
  clear h
  obtain ⟨a, r, bb⟩ := x
  unfold agP boxR at *
  simp only at *
  rcases hf with ⟨rfl, rfl⟩ | ⟨g, cap, rfl, hg, hrow⟩
  · have HB : Hid (Below _ _ _) := hB
    clear hB hE
    go_enter Tryz.func50, Tryz.ntmps50
    go_wp2
    refine wp_loop_rounds 1 ?_
    rw [rounds_succ]
    go_wp2
    go_ret
    exact ⟨rfl, HB.out⟩
  · generalize hln : m.length = ln at *
    have HN : Hid (ln = m.length) := hln.symm
    clear hln
    have HB : Hid (Below _ _ _) := hB
    have HR : Hid (RowN _ g m) := hrow
    have HE : Hid (∀ (l : Ln) W, _) := hE
    have HV : Hid (_ = some (Value.slice (some ⟨g, 0, none⟩) ln cap)) := hv
    have HX : Hid (BoxAt _ (a, r, bb) _) := hbx
    have HL0 : Hid (w.heap.size + 1 < _) := hlt0
    clear hB hrow hE hbx hlt0 hg
    go_enter Tryz.func50, Tryz.ntmps50
    go_wp2
    generalize (w.alloc (.cells #[.slice (some ⟨g, 0, none⟩) ln cap] 30)).alloc (.cells #[.string a, .int .i64 r, .int .i64 bb] 41) = W at *
    go_loopw [7] (fun i wr => ∃ k : Nat, k ≤ ln ∧ i = .int .i64 k ∧ Below W.heap.size W wr ∧ ∀ l ∈ m.take k, keyL l ≠ ((a, r, bb), c)) (fun i _ => ln - (RowKit.intOf i).toNat)
    case atStart => exact ⟨0, Nat.zero_le _, rfl, Below.refl _ _, by simp⟩
    case round =>
      obtain ⟨k, hk, rfl, hwr, hno⟩ := hrel
      have HNo : Hid (∀ l ∈ m.take k, keyL l ≠ ((a, r, bb), c)) := hno
      clear hno
      have hvr : wr.cell? ⟨w.heap.size, 0, none⟩ = some (.slice (some ⟨g, 0, none⟩) ln cap) := by rw [hwr.cell (p := ⟨w.heap.size, 0, none⟩) (by have := HL0.out; simp; omega)]; exact HV.out
      obtain ⟨b0, b1, b2⟩ := HX.out.below hwr
      simp only at b0 b1 b2
      by_cases hlt : k < ln
      · have hkm : k < m.length := by rw [← HN.out]; exact hlt
        obtain ⟨l, hl⟩ : ∃ l, m[k]? = some l := ⟨_, List.getElem?_eq_getElem hkm⟩
        have HLl : Hid (m[k]? = some l) := hl
        obtain ⟨c0, c1, c2, c3, c4⟩ := HR.out.below hwr k l hl
        have hq := HE.out l
        clear hl hkm hv
        obtain ⟨⟨la, lr, lb⟩, lc, lnn⟩ := l
        simp only at c0 c1 c2 c3 c4 hq
        by_cases hp : ((la, lr, lb) : Pl) = (a, r, bb)
        · rw [decide_eq_true hp] at hq
          by_cases hc : lc = c
          · have HK : Hid (keyL ((la, lr, lb), lc, lnn) = ((a, r, bb), c)) := by show (((la, lr, lb), lc) : Sp) = _; rw [hp, hc]
            subst hc
            clear hp
            go_wp2
            go_quiet (fail)
            go_wp2
            go_ret
            exact ⟨by rw [findR_at HLl.out HK.out HNo.out]; rfl, HB.out.trans ((below_drewN hwr _).mono HB.out.size)⟩
          · have HK : Hid (keyL ((la, lr, lb), lc, lnn) ≠ ((a, r, bb), c)) := keyL_ne_lot hc
            have e3 := same_eq lc c
            rw [decide_eq_false hc] at e3
            clear hp hc
            go_wp2
            go_quiet (fail)
            go_wp2
            go_roundw
            case rel => exact ⟨k + 1, by omega, by go_num, below_drewN hwr _, take_next HLl.out HNo.out HK.out⟩
            case measure => simp [RowKit.intOf]; omega
        · have HK : Hid (keyL ((la, lr, lb), lc, lnn) ≠ ((a, r, bb), c)) := keyL_ne_place hp
          rw [decide_eq_false hp] at hq
          clear hp
          go_wp2
          go_quiet (fail)
          go_wp2
          go_roundw
          case rel => exact ⟨k + 1, by omega, by go_num, below_drewN hwr _, take_next HLl.out HNo.out HK.out⟩
          case measure => simp [RowKit.intOf]; omega
      · have e : m.take k = m := List.take_of_length_le (by rw [← HN.out]; omega)
        have HNm : Hid (∀ l ∈ m, keyL l ≠ ((a, r, bb), c)) := by show ∀ l ∈ m, _; rw [← e]; exact HNo.out
        clear e hv
        go_wp2
        go_ret
        exact ⟨by rw [findR_none HNm.out]; rfl, HB.out.trans (hwr.mono HB.out.size)⟩
end Go.Proofs.YtcipbkaopnaiiabGreatDoor
