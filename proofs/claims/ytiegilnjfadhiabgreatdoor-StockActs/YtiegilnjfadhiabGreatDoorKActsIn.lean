/-
  The law StockActs answers true: what stays while acts are done; its edges; up to sixty acts.
-/
import Derived.Test.YtiegilnjfadhiabGreatDoorKAs
import Derived.Test.YtiegilnjfadhiabGreatDoorKRefMove
import Derived.Test.YtiegilnjfadhiabGreatDoorKCopy
namespace Go.Proofs.YtiegilnjfadhiabGreatDoor
open Go.RowKit Go.Lib Go.Sort

/-- All that was there. -/
structure Old12 (w : World) (s : Nat → Addr) : Prop where
  sent : Sent w s
  handle : Handle w
  pow : Pow w
theorem Old12.below {w w' : World} {s : Nat → Addr} (h : Old12 w s) (hb : Below w.heap.size w w') : Old12 w' s := ⟨h.sent.below hb, h.handle.below hb, h.pow.below hb⟩
theorem Old12.old6 {w : World} {s : Nat → Addr} (h : Old12 w s) : Old6 w s := ⟨h.sent.six, h.pow⟩
theorem RefS.grown {w w' : World} {v : Value} {m m0 : List Ln} {p b : Nat} (h : RefS w v m) (hi : IsStock w p b m0) (hg : w.grownBy w' (some b)) : RefS w' v m := by
  refine h.kept hg (Or.inr fun e => ?_)
  obtain ⟨c, fz, hc⟩ := ownsRow_kind h b e
  obtain ⟨es, cl, hb, _⟩ := hi.map
  rw [hc] at hb
  cases hb
/-- While an act is done: its box, the reference's stock, the one behind it. -/
structure ActW (w : World) (qa qm qx : Nat) (z : Ac) (v vx : Value) : Prop where
  a : ActAt w qa 0 z
  mm : w.heap[qm]? = some (.cells #[v] 30 (0, 0))
  xx : w.heap[qx]? = some (.cells #[vx] 30 (0, 0))
theorem ActAt.of_block {w w' : World} {b o : Nat} {x : Ac} (h : ActAt w b o x) (k : w'.heap[b]? = w.heap[b]?) : ActAt w' b o x :=
  ⟨(World.cell?_of_block (a := ⟨b, o, none⟩) k).trans h.c0, (World.cell?_of_block (a := ⟨b, o + 1, none⟩) k).trans h.c1, (World.cell?_of_block (a := ⟨b, o + 1 + 1, none⟩) k).trans h.c2, (World.cell?_of_block (a := ⟨b, o + 1 + 2, none⟩) k).trans h.c3, (World.cell?_of_block (a := ⟨b, o + 4, none⟩) k).trans h.c4, (World.cell?_of_block (a := ⟨b, o + 4 + 1, none⟩) k).trans h.c5, (World.cell?_of_block (a := ⟨b, o + 4 + 2, none⟩) k).trans h.c6, (World.cell?_of_block (a := ⟨b, o + 7, none⟩) k).trans h.c7, (World.cell?_of_block (a := ⟨b, o + 8, none⟩) k).trans h.c8⟩
theorem ActAt.lt {w : World} {b o : Nat} {x : Ac} (h : ActAt w b o x) : b < w.heap.size := cell_lt h.c0
theorem ActAt.new (w : World) (z : Ac) (t n : Nat) (hn : n = w.heap.size) : ActAt (w.alloc (.cells #[.string z.1, .string z.2.1.1, .int .i64 z.2.1.2.1, .int .i64 z.2.1.2.2, .string z.2.2.1.1, .int .i64 z.2.2.1.2.1, .int .i64 z.2.2.1.2.2, .string z.2.2.2.1, .int .i64 z.2.2.2.2] t)) n 0 z := by
  constructor <;> (rw [World.cell?_alloc_at _ _ _ _ hn]; rfl)
theorem ActW.later {w w' : World} {qa qm qx : Nat} {z : Ac} {v vx : Value} (h : ActW w qa qm qx z v vx) (hb : Below w.heap.size w w') : ActW w' qa qm qx z v vx :=
  ⟨h.a.of_block (hb.block _ h.a.lt), (hb.block _ (Array.getElem?_eq_some_iff.1 h.mm).1).trans h.mm, (hb.block _ (Array.getElem?_eq_some_iff.1 h.xx).1).trans h.xx⟩
theorem ActW.grown {w w' : World} {qa qm qx b : Nat} {z : Ac} {v vx : Value} (h : ActW w qa qm qx z v vx) (hg : w.grownBy w' (some b)) (h1 : qa ≠ b) (h2 : qm ≠ b) (h3 : qx ≠ b) : ActW w' qa qm qx z v vx :=
  ⟨h.a.of_block (hg.block _ h.a.lt (by simp; exact h1)), (hg.block _ (Array.getElem?_eq_some_iff.1 h.mm).1 (by simp; exact h2)).trans h.mm, (hg.block _ (Array.getElem?_eq_some_iff.1 h.xx).1 (by simp; exact h3)).trans h.xx⟩
theorem ActW.set {w : World} {qa qm qx : Nat} {z : Ac} {v vx : Value} (h : ActW w qa qm qx z v vx) (u : Value) (h1 : qa ≠ qx) (h2 : qm ≠ qx) : ActW (w.setCell ⟨qx, 0, none⟩ u) qa qm qx z v u :=
  ⟨h.a.of_block (Below.heap_setCell w ⟨qx, 0, none⟩ u qa h1), (Below.heap_setCell w ⟨qx, 0, none⟩ u qm h2).trans h.mm, by simpa using Joins.block_setCell (i := 0) h.xx u⟩
theorem ActW.cells {w : World} {qa qm qx : Nat} {z : Ac} {v vx : Value} (h : ActW w qa qm qx z v vx) : w.cell? ⟨qm, 0, none⟩ = some v ∧ w.frozen? ⟨qm, 0, none⟩ = false ∧ w.cell? ⟨qx, 0, none⟩ = some vx ∧ w.frozen? ⟨qx, 0, none⟩ = false :=
  ⟨by rw [cell_of_heap h.mm]; rfl, frozen_of_heap h.mm 0, by rw [cell_of_heap h.xx]; rfl, frozen_of_heap h.xx 0⟩
theorem IsStock.set {w : World} {p b q : Nat} {m : List Ln} (h : IsStock w p b m) (u : Value) (h1 : p ≠ q) (h2 : b ≠ q) : IsStock (w.setCell ⟨q, 0, none⟩ u) p b m :=
  ⟨(World.cell?_of_block (a := ⟨p, 0, none⟩) (Below.heap_setCell w ⟨q, 0, none⟩ u p h1)).trans h.cell, h.map.of_block (Below.heap_setCell w ⟨q, 0, none⟩ u b h2), h.wf⟩
set_option maxRecDepth 100000 in
set_option maxHeartbeats 1000000 in
theorem acts_long (pp : Option Addr) (k cp : Nat) (x : Pl) (c : ByteArray) (w : World) (s : Nat → Addr) (hO : Old6 w s) (hm : k ≤ maxLen) (hz : x.1.size ≤ maxLen) (hz' : c.size ≤ maxLen) (hn : 60 < k ∨ 30 < c.size ∨ 30 < x.1.size) :
    Calls Tryz.prog 4 #[.slice pp k cp, agP x, .string c] w fun e w' => e = .returned (.bool true) ∧ Below w.heap.size w w' := by
  have hB : Below w.heap.size w (w.alloc (.cells #[.string x.1, .int .i64 x.2.1, .int .i64 x.2.2] 41)) := (Below.refl _ w).alloc (Nat.le_refl _) _
  have hx := BoxAt.new w x 41 _ rfl
  have ht := stocked_any _ s (hO.old.below hB)
  unfold maxLen at hm hz hz'
  have hcs : 60 < k ∨ (k ≤ 60 ∧ 30 < c.size) ∨ (k ≤ 60 ∧ c.size ≤ 30 ∧ 30 < x.1.size) := by omega
  clear hn
  obtain ⟨a, r, bb⟩ := x
  unfold agP at *
  simp only at *
  have HT : Hid (Calls Tryz.prog 5 _ _ _) := ht
  have HB : Hid (Below _ _ _) := hB
  clear ht hO hB
  rcases hcs with h1 | ⟨h1, h2⟩ | ⟨h1, h2, h3⟩
  all_goals
    go_enter Tryz.func4, Tryz.ntmps4
    go_wp2_with (go_at_call 5; refine HT.out.mono ?_; rintro e w1 ⟨rfl, hb⟩; obtain ⟨b0, b1, b2⟩ := hx.below hb; simp only at b0 b1 b2)
    go_ret
    exact ⟨rfl, HB.out.trans (hb.mono HB.out.size)⟩
end Go.Proofs.YtiegilnjfadhiabGreatDoor
namespace Go.Proofs.YtiegilnjfadhiabGreatDoor
open Go.RowKit Go.Lib Go.Sort

set_option maxRecDepth 100000 in
set_option maxHeartbeats 16000000 in
theorem acts_in (pp : Option Addr) (d : List Ac) (cp : Nat) (x : Pl) (c : ByteArray) (w : World) (s : Nat → Addr) (hO : Old12 w s) (h60 : d.length ≤ 60) (hr : d = [] ∨ ∃ b off, pp = some ⟨b, off, none⟩ ∧ RowA w b off d) (hkx : KeyOk (x, c)) (hc30 : c.size ≤ 30) (hx30 : x.1.size ≤ 30) :
    Calls Tryz.prog 4 #[.slice pp d.length cp, agP x, .string c] w fun e w' => e = .returned (.bool true) ∧ Below w.heap.size w w' := by
  have hB : Below w.heap.size w (w.alloc (.cells #[.string x.1, .int .i64 x.2.1, .int .i64 x.2.2] 41)) := (Below.refl _ w).alloc (Nat.le_refl _) _
  have hx := BoxAt.new w x 41 _ rfl
  have hW := hO.below hB
  have ht := stocked_any _ s hW.old6.old
  have HRw : Hid (d = [] ∨ ∃ b off, pp = some ⟨b, off, none⟩ ∧ RowA (w.alloc (.cells #[.string x.1, .int .i64 x.2.1, .int .i64 x.2.2] 41)) b off d) := by
    rcases hr with h | ⟨b, off, h1, h2⟩
    · exact Or.inl h
    · exact Or.inr ⟨b, off, h1, h2.below hB⟩
  have HPu : Hid (∀ (z : Ac), WfA z → ∀ w1 p b m, IsStock w1 p b m → _ → _ → Calls Tryz.prog 13 #[.pointer (some ⟨p, 0, none⟩), agP z.2.1, .string z.2.2.2.1, .int .i64 z.2.2.2.2] w1 _) := fun z hz => lawPut hW.old6 z.2.1 z.2.2.2.1 z.2.2.2.2 hz.from_
  have HMv : Hid (∀ (z : Ac), WfA z → ∀ w1 p b m, IsStock w1 p b m → _ → _ → Calls Tryz.prog 17 #[.pointer (some ⟨p, 0, none⟩), agP z.2.1, agP z.2.2.1, .string z.2.2.2.1, .int .i64 z.2.2.2.2] w1 _) := fun z hz => lawMove hW.old6 z.2.1 z.2.2.1 z.2.2.2.1 z.2.2.2.2 hz.from_ hz.to_.z
  have HTk : Hid (∀ (z : Ac), WfA z → ∀ w1 p b m, IsStock w1 p b m → Below (w.alloc (.cells #[.string x.1, .int .i64 x.2.1, .int .i64 x.2.2] 41)).heap.size (w.alloc (.cells #[.string x.1, .int .i64 x.2.1, .int .i64 x.2.2] 41)) w1 → (w.alloc (.cells #[.string x.1, .int .i64 x.2.1, .int .i64 x.2.2] 41)).heap.size ≤ b → Calls Tryz.prog 15 #[.pointer (some ⟨p, 0, none⟩), agP z.2.1, .string z.2.2.2.1, .int .i64 z.2.2.2.2] w1 fun e w' => e = .returned (errP s (takeE m (z.2.1, z.2.2.2.1) z.2.2.2.2)) ∧ IsStock w' p b (takeL m (z.2.1, z.2.2.2.1) z.2.2.2.2) ∧ Below (w.alloc (.cells #[.string x.1, .int .i64 x.2.1, .int .i64 x.2.2] 41)).heap.size (w.alloc (.cells #[.string x.1, .int .i64 x.2.1, .int .i64 x.2.2] 41)) w' ∧ w1.grownBy w' (some b)) := fun z hz w1 p b m hi hb hB => (take_any z.2.1 z.2.2.2.1 z.2.2.2.2 w1 s p b m hi hz.from_ (hW.old6.six.five.below hb)).mono fun _ _ ⟨he, hi', hg⟩ => ⟨he, hi', grown_below hb hB hg, hg⟩
  have HCo : Hid (∀ (code : Nat), code ≤ 12 → ∀ w1, Below (w.alloc (.cells #[.string x.1, .int .i64 x.2.1, .int .i64 x.2.2] 41)).heap.size (w.alloc (.cells #[.string x.1, .int .i64 x.2.1, .int .i64 x.2.2] 41)) w1 → Calls Tryz.prog 18 #[errP s code, .int .i64 code] w1 fun e w' => e = .returned (.bool true) ∧ Below w1.heap.size w1 w') := fun code hc w1 hb => by
    have := codedP_any s code hc code w1 (hW.sent.below hb) (hW.handle.below hb)
    rw [decide_eq_true rfl] at this
    exact this
  have HEnd : Hid (∀ wf p b v m, IsStock wf p b m → RefS wf v m → Below (w.alloc (.cells #[.string x.1, .int .i64 x.2.1, .int .i64 x.2.2] 41)).heap.size (w.alloc (.cells #[.string x.1, .int .i64 x.2.1, .int .i64 x.2.2] 41)) wf → ∀ w1, Below wf.heap.size wf w1 → (Calls Tryz.prog 9 #[.pointer (some ⟨p, 0, none⟩), .agg #[v]] w1 fun e w' => e = .returned (.int .i64 1) ∧ Below w1.heap.size w1 w') ∧ (Calls Tryz.prog 20 #[.pointer (some ⟨p, 0, none⟩), agP x, .string c] w1 fun e w' => e = .returned (.int .i64 (atL m (x, c))) ∧ Below w1.heap.size w1 w') ∧ (Calls Tryz.prog 21 #[.agg #[v], agP x, .string c] w1 fun e w' => e = .returned (.int .i64 (atL m (x, c))) ∧ Below w1.heap.size w1 w') ∧ (Calls Tryz.prog 22 #[.pointer (some ⟨p, 0, none⟩), .string c] w1 fun e w' => e = .returned (.int .i64 (ofL m c)) ∧ Below w1.heap.size w1 w') ∧ (Calls Tryz.prog 23 #[.agg #[v], .string c] w1 fun e w' => e = .returned (.int .i64 (ofL m c)) ∧ Below w1.heap.size w1 w')) := fun wf p b v m hi hr hb w1 hb1 =>
    ⟨asStock_any w1 s p b m v (hi.all hb1) (hr.all hb1) (hW.old6.below (hb.trans (hb1.mono hb.size))), at_any x c w1 p b m (hi.all hb1) hkx, refAt_any v m x c w1 (hr.all hb1) hi.wf.len hi.wf.sorted, of_any c w1 p b m (hi.all hb1), refOf_any v m c w1 (hr.all hb1) hi.wf⟩
  have HT : Hid (Calls Tryz.prog 5 _ _ _) := ht
  have HB : Hid (Below _ _ _) := hB
  have HX : Hid (BoxAt _ x _) := hx
  clear hO hr hkx hW ht hB
  generalize hdl : d.length = k0 at *
  have HD : Hid (d.length = k0) := hdl
  clear hdl
  obtain ⟨a, r, bb⟩ := x
  unfold agP at *
  simp only at *
  go_enter Tryz.func4, Tryz.ntmps4
  go_wp2_with (first
    | (go_at_call 5; refine HT.out.mono ?_; rintro e w1 ⟨rfl, hb1⟩; obtain ⟨y0, y1, y2⟩ := hx.below hb1; simp only at y0 y1 y2)
    | (go_at_call 11; refine (new_any _).mono ?_; rintro e w2 ⟨rfl, hi2, hb2⟩; have hbw2 := hb1.trans (hb2.mono hb1.size)))
  have hs1 := hb1.size
  have hl2 := hi2.lt
  have hI0 := hi2.all ((Below.refl _ w2).alloc (Nat.le_refl _) (.cells #[.slice none 0 0] 30))
  have hM0 := heap_alloc_new w2 (.cells #[.slice none 0 0] 30)
  have hB0 := hbw2.alloc hbw2.size (.cells #[.slice none 0 0] 30)
  have hqs := hbw2.size
  clear y0 y1 y2 hi2 hb2 hb1 hbw2 HT hx
  generalize w.alloc (.cells #[.string a, .int .i64 r, .int .i64 bb] 41) = W at *
  generalize w2.alloc (.cells #[.slice none 0 0] 30) = w3 at *
  generalize w2.heap.size = qm at *
  generalize hp : w1.heap.size + 1 = p at *
  generalize hbk : w1.heap.size = b at *
  have hbW : Hid (W.heap.size ≤ b) := hs1
  have hqm : Hid (W.heap.size ≤ qm) := hqs
  have hpq : Hid (p < qm ∧ b < qm) := hl2
  clear hp hbk hs1 hqs hl2
  go_loopw [10] (fun i wr => ∃ (k : Nat) (m : List Ln) (v : Value), k ≤ k0 ∧ i = .int .i64 k ∧ IsStock wr p b m ∧ RefS wr v m ∧ wr.heap[qm]? = some (.cells #[v] 30 (0, 0)) ∧ Below W.heap.size W wr) (fun i _ => k0 - (RowKit.intOf i).toNat)
  case atStart => exact ⟨0, [], .slice none 0 0, Nat.zero_le _, rfl, hI0, RefS.nil _, hM0, hB0⟩
  case round =>
    clear hI0 hM0 hB0
    obtain ⟨k, m, v, hk, rfl, hi, hrf, hmm, hb⟩ := hrel
    obtain ⟨ao, kv, cv, rfl⟩ := own_sliceN hrf
    by_cases hlt : k < k0
    · rcases HRw.out with h0 | ⟨bq, off, rfl, hrow⟩
      · exfalso; have := HD.out; rw [h0] at this; simp at this; omega
      · have hkd : k < d.length := by rw [HD.out]; exact hlt
        obtain ⟨z, hz⟩ : ∃ z, d[k]? = some z := ⟨_, List.getElem?_eq_getElem hkd⟩
        obtain ⟨hat, hwf⟩ := hrow k z hz
        have hpu := HPu.out z hwf
        have hmv := HMv.out z hwf
        have htk := HTk.out z hwf
        have hz1 := hwf.from_.z
        have hz2 := hwf.to_.z
        have hz3 := hwf.from_.c
        have hwm := hi.wf
        have hbox := ActAt.new wr z 44 _ rfl
        have hqmr : qm < wr.heap.size := (Array.getElem?_eq_some_iff.1 hmm).1
        obtain ⟨c0, c1, c2, c3, c4, c5, c6, c7, c8⟩ := hat.below hb
        clear hz hkd hat hrow hwf HPu HMv HTk HRw
        obtain ⟨zk, ⟨za, zr, zb⟩, ⟨ta, tr, tb⟩, zc, zn⟩ := z
        simp only at c0 c1 c2 c3 c4 c5 c6 c7 c8 hpu hmv htk hz1 hz2 hz3 hbox
        unfold maxLen at hz1 hz2 hz3
        have hpq1 := hpq.out.1
        have hpq2 := hpq.out.2
        have hi0 : (0 : Int) ≤ (k : Int) := by omega
        have hik : (k : Int) < (k0 : Int) := by omega
        have hcs : (30 < za.size) ∨ (za.size ≤ 30 ∧ 30 < ta.size) ∨ (za.size ≤ 30 ∧ ta.size ≤ 30 ∧ 30 < zc.size) ∨ (za.size ≤ 30 ∧ ta.size ≤ 30 ∧ zc.size ≤ 30) := by omega
        have hBx := hb.alloc hb.size (.cells #[.string zk, .string za, .int .i64 zr, .int .i64 zb, .string ta, .int .i64 tr, .int .i64 tb, .string zc, .int .i64 zn] 44)
        rcases hcs with h1 | ⟨h1, h2⟩ | ⟨h1, h2, h3⟩ | ⟨h1, h2, h3⟩
        · go_wp2
          go_ret
          exact ⟨rfl, HB.out.trans (hBx.mono HB.out.size)⟩
        · go_wp2
          go_ret
          exact ⟨rfl, HB.out.trans (hBx.mono HB.out.size)⟩
        · go_wp2
          go_ret
          exact ⟨rfl, HB.out.trans (hBx.mono HB.out.size)⟩
        · have hm30 : Hid (ta.size ≤ maxLen ∧ za.size ≤ maxLen ∧ zc.size ≤ maxLen) := by unfold maxLen; exact ⟨by omega, by omega, by omega⟩
          have hbY : Below wr.heap.size wr ((wr.alloc (.cells #[.string zk, .string za, .int .i64 zr, .int .i64 zb, .string ta, .int .i64 tr, .int .i64 tb, .string zc, .int .i64 zn] 44)).alloc (.cells #[.slice ao kv cv] 30)) := ((Below.refl _ wr).alloc (Nat.le_refl _) _).alloc (by simp) _
          have hA : ActW ((wr.alloc (.cells #[.string zk, .string za, .int .i64 zr, .int .i64 zb, .string ta, .int .i64 tr, .int .i64 tb, .string zc, .int .i64 zn] 44)).alloc (.cells #[.slice ao kv cv] 30)) wr.heap.size qm (wr.heap.size + 1) (zk, (za, zr, zb), (ta, tr, tb), zc, zn) (.slice ao kv cv) (.slice ao kv cv) := by
            refine ⟨hbox.below ((Below.refl _ _).alloc (Nat.le_refl _) _), (hbY.block _ hqmr).trans hmm, ?_⟩
            have := heap_alloc_new (wr.alloc (.cells #[.string zk, .string za, .int .i64 zr, .int .i64 zb, .string ta, .int .i64 tr, .int .i64 tb, .string zc, .int .i64 zn] 44)) (.cells #[.slice ao kv cv] 30)
            simpa using this
          have hiA := hi.all hbY
          have hrA := hrf.all hbY
          have hBA := hb.trans (hbY.mono hb.size)
          have hqaW : Hid (W.heap.size ≤ wr.heap.size) := hb.size
          have hne1 : wr.heap.size ≠ wr.heap.size + 1 := by omega
          have hne2 : qm ≠ wr.heap.size + 1 := by omega
          have hmc : wr.cell? ⟨qm, 0, none⟩ = some (.slice ao kv cv) := by rw [cell_of_heap hmm]; rfl
          have hmc' := alloc_cell hmc
          obtain ⟨u0, u1, u2, u3, u4, u5, u6, u7, u8⟩ := hA.a
          obtain ⟨um, umf, ux, uxf⟩ := hA.cells
          simp only [Nat.zero_add, Nat.reduceAdd] at u0 u1 u2 u3 u4 u5 u6 u7 u8
          by_cases hk1 : zk = ⟨#[112, 117, 116]⟩
          · subst hk1
            have hc12 := putE_le m (za, zr, zb) zc zn
            have hrp := fun w1 (hr : RefS w1 (.slice ao kv cv) m) => refPut_any _ m (za, zr, zb) zc zn w1 hr hwm hm30.out.2.1 hm30.out.2.2
            unfold agP at hrp
            simp only at hrp
            go_wp2_with (fail)
            clear c0 c1 c2 c3 c4 c5 c6 c7 c8 hmc hmc' hbox hbY hmm hi hrf hBx hb hi0 hik
            generalize (wr.alloc (.cells #[.string ⟨#[112, 117, 116]⟩, .string za, .int .i64 zr, .int .i64 zb, .string ta, .int .i64 tr, .int .i64 tb, .string zc, .int .i64 zn] 44)).alloc (.cells #[.slice ao kv cv] 30) = WA at *
            generalize wr.heap.size = qa at *
            go_wp2_with (first
              | (go_at_call 12; refine (hrp _ hrA).mono ?_; rintro e w4 ⟨v4, rfl, hr4, hb4⟩; obtain ⟨ao4, k4, cp4, rfl⟩ := own_sliceN hr4; have hA4 := hA.later hb4; have hi4 := hiA.all hb4; have hB4 := hBA.trans (hb4.mono hBA.size); have hA5 := hA4.set (.slice ao4 k4 cp4) hne1 hne2; have hi5 := hi4.set (q := qa + 1) (.slice ao4 k4 cp4) (by omega) (by omega); have hr5 := (hr4.put (u' := .slice ao4 k4 cp4) hA4.xx).1; have hB5 := hB4.setCell (p := ⟨qa + 1, 0, none⟩) (by have := hqaW.out; simp; omega) (.slice ao4 k4 cp4); obtain ⟨e0, e1, e2, e3, e4, e5, e6, e7, e8⟩ := (hA4).a; obtain ⟨em, emf, ex, exf⟩ := (hA4).cells; simp only [Nat.zero_add, Nat.reduceAdd] at e0 e1 e2 e3 e4 e5 e6 e7 e8; obtain ⟨f0, f1, f2, f3, f4, f5, f6, f7, f8⟩ := (hA5).a; obtain ⟨fm, fmf, fx, fxf⟩ := (hA5).cells; simp only [Nat.zero_add, Nat.reduceAdd] at f0 f1 f2 f3 f4 f5 f6 f7 f8)
              | (go_at_call 13; refine (hpu _ p b m hi5 hB5 hbW.out).mono ?_; rintro e w6 ⟨rfl, hi6, hB6, hg6⟩; have hA6 := hA5.grown hg6 (by omega) (by omega) (by omega); have hr6 := hr5.grown hi5 hg6; obtain ⟨g0, g1, g2, g3, g4, g5, g6, g7, g8⟩ := (hA6).a; obtain ⟨gm, gmf, gx, gxf⟩ := (hA6).cells; simp only [Nat.zero_add, Nat.reduceAdd] at g0 g1 g2 g3 g4 g5 g6 g7 g8)
              | (go_at_call 18; refine (HCo.out _ hc12 _ hB6).mono ?_; rintro e w7 ⟨rfl, hb7⟩; have hA7 := hA6.later hb7; have hi7 := hi6.all hb7; have hr7 := hr6.all hb7; have hB7 := hB6.trans (hb7.mono hB6.size); obtain ⟨h0, h1, h2, h3, h4, h5, h6, h7, h8⟩ := (hA7).a; obtain ⟨hm, hmf, hx, hxf⟩ := (hA7).cells; simp only [Nat.zero_add, Nat.reduceAdd] at h0 h1 h2 h3 h4 h5 h6 h7 h8))
            go_roundw
            case rel => exact ⟨k + 1, _, _, by omega, by go_num, hi7.set _ (by omega) (by omega), (hr7.put hA7.mm).1, (hr7.put hA7.mm).2, hB7.setCell (p := ⟨qm, 0, none⟩) hqm.out _⟩
            case measure => simp [RowKit.intOf]; omega
          · by_cases hk2 : zk = ⟨#[116, 97, 107, 101]⟩
            · subst hk2
              have hc12 := takeE_le m ((za, zr, zb), zc) zn
              have hrp := fun w1 (hr : RefS w1 (.slice ao kv cv) m) => refTake_any _ m (za, zr, zb) zc zn w1 hr hwm
              unfold agP at hrp
              simp only at hrp
              go_wp2_with (fail)
              clear c0 c1 c2 c3 c4 c5 c6 c7 c8 hmc hmc' hbox hbY hmm hi hrf hBx hb hi0 hik
              generalize (wr.alloc (.cells #[.string ⟨#[116, 97, 107, 101]⟩, .string za, .int .i64 zr, .int .i64 zb, .string ta, .int .i64 tr, .int .i64 tb, .string zc, .int .i64 zn] 44)).alloc (.cells #[.slice ao kv cv] 30) = WA at *
              generalize wr.heap.size = qa at *
              go_wp2_with (first
                | (go_at_call 14; refine (hrp _ hrA).mono ?_; rintro e w4 ⟨v4, rfl, hr4, hb4⟩; obtain ⟨ao4, k4, cp4, rfl⟩ := own_sliceN hr4; have hA4 := hA.later hb4; have hi4 := hiA.all hb4; have hB4 := hBA.trans (hb4.mono hBA.size); have hA5 := hA4.set (.slice ao4 k4 cp4) hne1 hne2; have hi5 := hi4.set (q := qa + 1) (.slice ao4 k4 cp4) (by omega) (by omega); have hr5 := (hr4.put (u' := .slice ao4 k4 cp4) hA4.xx).1; have hB5 := hB4.setCell (p := ⟨qa + 1, 0, none⟩) (by have := hqaW.out; simp; omega) (.slice ao4 k4 cp4); obtain ⟨e0, e1, e2, e3, e4, e5, e6, e7, e8⟩ := (hA4).a; obtain ⟨em, emf, ex, exf⟩ := (hA4).cells; simp only [Nat.zero_add, Nat.reduceAdd] at e0 e1 e2 e3 e4 e5 e6 e7 e8; obtain ⟨f0, f1, f2, f3, f4, f5, f6, f7, f8⟩ := (hA5).a; obtain ⟨fm, fmf, fx, fxf⟩ := (hA5).cells; simp only [Nat.zero_add, Nat.reduceAdd] at f0 f1 f2 f3 f4 f5 f6 f7 f8)
                | (go_at_call 15; refine (htk _ p b m hi5 hB5 hbW.out).mono ?_; rintro e w6 ⟨rfl, hi6, hB6, hg6⟩; have hA6 := hA5.grown hg6 (by omega) (by omega) (by omega); have hr6 := hr5.grown hi5 hg6; obtain ⟨g0, g1, g2, g3, g4, g5, g6, g7, g8⟩ := (hA6).a; obtain ⟨gm, gmf, gx, gxf⟩ := (hA6).cells; simp only [Nat.zero_add, Nat.reduceAdd] at g0 g1 g2 g3 g4 g5 g6 g7 g8)
                | (go_at_call 18; refine (HCo.out _ hc12 _ hB6).mono ?_; rintro e w7 ⟨rfl, hb7⟩; have hA7 := hA6.later hb7; have hi7 := hi6.all hb7; have hr7 := hr6.all hb7; have hB7 := hB6.trans (hb7.mono hB6.size); obtain ⟨h0, h1, h2, h3, h4, h5, h6, h7, h8⟩ := (hA7).a; obtain ⟨hm, hmf, hx, hxf⟩ := (hA7).cells; simp only [Nat.zero_add, Nat.reduceAdd] at h0 h1 h2 h3 h4 h5 h6 h7 h8))
              go_roundw
              case rel => exact ⟨k + 1, _, _, by omega, by go_num, hi7.set _ (by omega) (by omega), (hr7.put hA7.mm).1, (hr7.put hA7.mm).2, hB7.setCell (p := ⟨qm, 0, none⟩) hqm.out _⟩
              case measure => simp [RowKit.intOf]; omega
            · have e1 := same_eq zk ⟨#[112, 117, 116]⟩
              rw [decide_eq_false hk1] at e1
              have e2 := same_eq zk ⟨#[116, 97, 107, 101]⟩
              rw [decide_eq_false hk2] at e2
              rw [Lib.toList_data ⟨#[112, 117, 116]⟩] at e1
              rw [Lib.toList_data ⟨#[116, 97, 107, 101]⟩] at e2
              simp only at e1 e2
              clear hk1 hk2
              have hc12 := moveE_le m (za, zr, zb) (ta, tr, tb) zc zn
              have hrp := fun w1 (hr : RefS w1 (.slice ao kv cv) m) => refMove_any _ m (za, zr, zb) (ta, tr, tb) zc zn w1 hr hwm hm30.out.1 hm30.out.2.2
              unfold agP at hrp
              simp only at hrp
              go_wp2_with (fail)
              clear c0 c1 c2 c3 c4 c5 c6 c7 c8 hmc hmc' hbox hbY hmm hi hrf hBx hb hi0 hik
              generalize (wr.alloc (.cells #[.string zk, .string za, .int .i64 zr, .int .i64 zb, .string ta, .int .i64 tr, .int .i64 tb, .string zc, .int .i64 zn] 44)).alloc (.cells #[.slice ao kv cv] 30) = WA at *
              generalize wr.heap.size = qa at *
              go_wp2_with (first
                | (go_at_call 16; refine (hrp _ hrA).mono ?_; rintro e w4 ⟨v4, rfl, hr4, hb4⟩; obtain ⟨ao4, k4, cp4, rfl⟩ := own_sliceN hr4; have hA4 := hA.later hb4; have hi4 := hiA.all hb4; have hB4 := hBA.trans (hb4.mono hBA.size); have hA5 := hA4.set (.slice ao4 k4 cp4) hne1 hne2; have hi5 := hi4.set (q := qa + 1) (.slice ao4 k4 cp4) (by omega) (by omega); have hr5 := (hr4.put (u' := .slice ao4 k4 cp4) hA4.xx).1; have hB5 := hB4.setCell (p := ⟨qa + 1, 0, none⟩) (by have := hqaW.out; simp; omega) (.slice ao4 k4 cp4); obtain ⟨e0, e1, e2, e3, e4, e5, e6, e7, e8⟩ := (hA4).a; obtain ⟨em, emf, ex, exf⟩ := (hA4).cells; simp only [Nat.zero_add, Nat.reduceAdd] at e0 e1 e2 e3 e4 e5 e6 e7 e8; obtain ⟨f0, f1, f2, f3, f4, f5, f6, f7, f8⟩ := (hA5).a; obtain ⟨fm, fmf, fx, fxf⟩ := (hA5).cells; simp only [Nat.zero_add, Nat.reduceAdd] at f0 f1 f2 f3 f4 f5 f6 f7 f8)
                | (go_at_call 17; refine (hmv _ p b m hi5 hB5 hbW.out).mono ?_; rintro e w6 ⟨rfl, hi6, hB6, hg6⟩; have hA6 := hA5.grown hg6 (by omega) (by omega) (by omega); have hr6 := hr5.grown hi5 hg6; obtain ⟨g0, g1, g2, g3, g4, g5, g6, g7, g8⟩ := (hA6).a; obtain ⟨gm, gmf, gx, gxf⟩ := (hA6).cells; simp only [Nat.zero_add, Nat.reduceAdd] at g0 g1 g2 g3 g4 g5 g6 g7 g8)
                | (go_at_call 18; refine (HCo.out _ hc12 _ hB6).mono ?_; rintro e w7 ⟨rfl, hb7⟩; have hA7 := hA6.later hb7; have hi7 := hi6.all hb7; have hr7 := hr6.all hb7; have hB7 := hB6.trans (hb7.mono hB6.size); obtain ⟨h0, h1, h2, h3, h4, h5, h6, h7, h8⟩ := (hA7).a; obtain ⟨hm, hmf, hx, hxf⟩ := (hA7).cells; simp only [Nat.zero_add, Nat.reduceAdd] at h0 h1 h2 h3 h4 h5 h6 h7 h8))
              go_roundw
              case rel => exact ⟨k + 1, _, _, by omega, by go_num, hi7.set _ (by omega) (by omega), (hr7.put hA7.mm).1, (hr7.put hA7.mm).2, hB7.setCell (p := ⟨qm, 0, none⟩) hqm.out _⟩
              case measure => simp [RowKit.intOf]; omega
    · have hmc : wr.cell? ⟨qm, 0, none⟩ = some (.slice ao kv cv) := by rw [cell_of_heap hmm]; rfl
      have HCp : Hid (Calls Tryz.prog 19 _ _ _) := copy_any wr p b m hi
      go_wp2_with (go_at_call 19; refine HCp.out.mono ?_; rintro e w5 ⟨p', b', rfl, hp', hb', hic, hb5⟩)
      have hi5 := hi.all hb5
      have hr5 := hrf.all hb5
      have hB5 := hb.trans (hb5.mono hb.size)
      have hm5 : w5.cell? ⟨qm, 0, none⟩ = some (.slice ao kv cv) := (hb5.cell (p := ⟨qm, 0, none⟩) (cell_lt hmc)).trans hmc
      obtain ⟨x0, x1, x2⟩ := HX.out.below hB5
      simp only at x0 x1 x2
      have kx0 := cell_regrown x0
      have kx1 := cell_regrown x1
      have kx2 := cell_regrown x2
      have km := cell_regrown hm5
      have hbR : ∀ dd os, Below w5.heap.size w5 (grow (redrawn w5 dd) os) := fun dd os => below_regrown w5 dd os
      have cA := fun dd os => Calls.regrown_of (w := w5) (d := dd) (os := os) (HEnd.out w5 p b _ m hi5 hr5 hB5 _ (hbR dd os)).1
      have cC := fun dd os => Calls.regrown_of (w := w5) (d := dd) (os := os) (HEnd.out w5 p' b' _ m hic hr5 hB5 _ (hbR dd os)).1
      have cT := fun dd os => Calls.regrown_of (w := w5) (d := dd) (os := os) (HEnd.out w5 p b _ m hi5 hr5 hB5 _ (hbR dd os)).2.1
      have cU := fun dd os => Calls.regrown_of (w := w5) (d := dd) (os := os) (HEnd.out w5 p b _ m hi5 hr5 hB5 _ (hbR dd os)).2.2.1
      have cO := fun dd os => Calls.regrown_of (w := w5) (d := dd) (os := os) (HEnd.out w5 p b _ m hi5 hr5 hB5 _ (hbR dd os)).2.2.2.1
      have cP := fun dd os => Calls.regrown_of (w := w5) (d := dd) (os := os) (HEnd.out w5 p b _ m hi5 hr5 hB5 _ (hbR dd os)).2.2.2.2
      have HB5 : Hid (Below W.heap.size W w5) := hB5
      clear x0 x1 x2 hm5 hmc hic hi5 hr5 hb5 HCp hi hrf hmm hb hB5 HPu HMv HTk HCo HEnd HRw
      generalize atL m ((a, r, bb), c) = AV at *
      generalize ofL m c = OV at *
      refine wp_region_quiet_below (by kernel_rfl) (by kernel_rfl) ?_
      repeat (quiet_step (first
        | (go_at_call_of 9 (Value.pointer (some ⟨p, 0, none⟩)); exact cA _ _)
        | (go_at_call_of 9 (Value.pointer (some ⟨p', 0, none⟩)); exact cC _ _)
        | (go_at_call 20; exact cT _ _)
        | (go_at_call 21; exact cU _ _)
        | (go_at_call 22; exact cO _ _)
        | (go_at_call 23; exact cP _ _)))
      refine wpQuiet_nil ?_
      intro _ hw'
      obtain ⟨⟨dq, osq⟩, hw''⟩ := hw'
      subst hw''
      have hbE := HB5.out.trans ((below_regrown w5 dq osq).mono HB5.out.size)
      go_wp2
      go_ret
      exact ⟨rfl, HB.out.trans (hbE.mono HB.out.size)⟩
end Go.Proofs.YtiegilnjfadhiabGreatDoor
