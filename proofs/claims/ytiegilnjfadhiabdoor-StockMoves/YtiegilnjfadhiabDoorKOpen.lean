/-
  A place among a row's data, down and up again; a slice of acts: the acts lie in a row; five parameters; the sentinels out of what a row lists.
-/
import Derived.Test.YtiegilnjfadhiabDoorKActs
import Derived.Test.YtiegilnjfadhiabDoorPLaid
import Derived.ProofKit
import Derived.OpenShut
import Derived.Stop.Joined
import Derived.Lib.SmallJoins
import Derived.Deep.Slices
import Derived.Lay
import Derived.Carry
namespace Go.Proofs.YtiegilnjfadhiabDoor
open Go.Joins Go.Deep
open Go.Sort Go.Lib
open Go.ChangeMaps (open_string shut_string)
open Go.ChangeShapes Go.WideShapes Go.ChangeAt Go.WideMaps Go.WideElems Go.RowKit

theorem Tryd.cellsPlace : Tryd.prog.cellsOf 45 = 3 := by kernel_rfl
theorem Tryd.cellsAct : Tryd.prog.cellsOf 50 = 9 := by kernel_rfl
/-- The datum of a place. -/
abbrev datP {H : Type} (a : ByteArray) (r b : Int) : DataW H := .agg [.lit (.string a.data.toList), .lit (.int .i64 r), .lit (.int .i64 b)]
set_option maxRecDepth 100000 in
theorem open_place {H : Type} {enc : TypeId × Value → H} {W : World} {base b0 : Nat} {v : Value} {d : DataW H} {p : List MemPlace} {sp : Nat → Bool} {hd : Bool} (hv : Value.okWide Tryd.prog W .any b0 45 v) (h : DataW.Trod enc Tryd.prog W base sp hd 45 v d p) :
    ∃ a r b, v = agP (a, r, b) ∧ d = datP a r b ∧ p = [] ∧ a.size ≤ maxLen ∧ (Lit.int .i64 r).wf = true ∧ (Lit.int .i64 b).wf = true := by
  obtain ⟨c0, c1, c2, y0, y1, y2, m, rfl, rfl, rfl, hy0, hy1, hy2⟩ := open_agg3 Tryd.underlying45 (by kernel_rfl) Tryd.cellsPlace hv h
  obtain ⟨a, e0, rfl, wa⟩ := DataW.trod_string Tryd.underlying9 hy0
  obtain ⟨r, e1, rfl, wr⟩ := DataW.trod_int Tryd.underlying3 hy1
  obtain ⟨b, e2, rfl, wb⟩ := DataW.trod_int Tryd.underlying3 hy2
  simp at e0 e1 e2
  subst e0 e1 e2
  exact ⟨a, r, b, rfl, rfl, rfl, wa, wr, wb⟩
set_option maxRecDepth 100000 in
theorem shut_place {H : Type} {enc : TypeId × Value → H} {W : World} {base : Nat} {sp : Nat → Bool} {hd : Bool} {a : ByteArray} {r b : Int} (wa : a.size ≤ maxLen) (wr : (Lit.int .i64 r).wf = true) (wb : (Lit.int .i64 b).wf = true) :
    DataW.Trod enc Tryd.prog W base sp hd 45 (agP (a, r, b)) (datP a r b) [] :=
  shut_agg3 (y0 := (.lit (.string a.data.toList), [])) (y1 := (.lit (.int .i64 r), [])) (y2 := (.lit (.int .i64 b), [])) Tryd.underlying45 (by kernel_rfl) Tryd.cellsPlace ⟨1, by simp [DataW.trod, Tryd.underlying9, wa]⟩ ⟨1, by simp [DataW.trod, Tryd.underlying3, wr]⟩ ⟨1, by simp [DataW.trod, Tryd.underlying3, wb]⟩
set_option maxRecDepth 100000 in
/-- One place, from its cells. -/
theorem open_place_cells {H : Type} {enc : TypeId × Value → H} {W : World} {base n : Nat} {c0 c1 c2 : Value} {x : DataW H × List MemPlace} {sp : Nat → Bool} {hd : Bool} (h : DataW.trod enc Tryd.prog W base sp hd n 45 [c0, c1, c2] = some x) :
    ∃ p : Pl, c0 = .string p.1 ∧ c1 = .int .i64 p.2.1 ∧ c2 = .int .i64 p.2.2 ∧ p.1.size ≤ maxLen ∧ (Lit.int .i64 p.2.1).wf = true ∧ (Lit.int .i64 p.2.2).wf = true := by
  obtain ⟨y0, y1, y2, m, hx, _, h0, h1, h2⟩ := trod_struct3 Tryd.underlying45 h
  have k0 : Tryd.prog.cellsOf 9 = 1 := by kernel_rfl
  have k1 : Tryd.prog.cellsOf 3 = 1 := by kernel_rfl
  simp [k0, k1] at h0 h1 h2
  obtain ⟨a, e0, _, wa⟩ := DataW.trod_string Tryd.underlying9 h0
  obtain ⟨r, e1, _, wr⟩ := DataW.trod_int Tryd.underlying3 h1
  obtain ⟨b, e2, _, wb⟩ := DataW.trod_int Tryd.underlying3 h2
  simp at e0 e1 e2
  exact ⟨(a, r, b), e0, e1, e2, wa, wr, wb⟩
set_option maxRecDepth 100000 in
/-- One act, from its cells. -/
theorem open_act_cells {H : Type} {enc : TypeId × Value → H} {W : World} {base n : Nat} {cs : List Value} {x : DataW H × List MemPlace} {sp : Nat → Bool} {hd : Bool} (hl : cs.length = 9) (h : DataW.trod enc Tryd.prog W base sp hd n 50 cs = some x) :
    ∃ z : Ac, cs = encA z ∧ WfA z := by
  obtain ⟨xs, m, _, _, _, hlen, hf⟩ := DataW.trod_struct Tryd.underlying50 h
  match cs, hl with
  | [c0, c1, c2, c3, c4, c5, c6, c7, c8], _ =>
    match xs, hlen with
    | [y0, y1, y2, y3, y4], _ =>
      have k0 : Tryd.prog.cellsOf 9 = 1 := by kernel_rfl
      have k1 : Tryd.prog.cellsOf 3 = 1 := by kernel_rfl
      have h0 := hf 0 _ rfl
      have h1 := hf 1 _ rfl
      have h2 := hf 2 _ rfl
      have h3 := hf 3 _ rfl
      have h4 := hf 4 _ rfl
      simp [k0, k1, Tryd.cellsPlace] at h0 h1 h2 h3 h4
      obtain ⟨a, e0, _, wa⟩ := DataW.trod_string Tryd.underlying9 h0
      obtain ⟨p, p0, p1, p2, wp0, wp1, wp2⟩ := open_place_cells h1
      obtain ⟨q, q0, q1, q2, wq0, wq1, wq2⟩ := open_place_cells h2
      obtain ⟨c, e3, _, wc⟩ := DataW.trod_string Tryd.underlying9 h3
      obtain ⟨k, e4, _, wk⟩ := DataW.trod_int Tryd.underlying3 h4
      simp at e0 e3 e4
      subst e0 e3 e4 p0 p1 p2 q0 q1 q2
      exact ⟨(a, p, q, c, k), rfl, ⟨⟨wp0, wp1, wp2, wc⟩, ⟨wq0, wq1, wq2, wc⟩, wk⟩⟩
set_option maxRecDepth 100000 in
theorem open_acts {H : Type} {enc : TypeId × Value → H} {W : World} {b0 : Nat} {v : Value} {dd : DataW H} {ps : List MemPlace} {sp : Nat → Bool} {hd : Bool} (hv : Value.okWide Tryd.prog W .any b0 43 v) (h : DataW.Trod enc Tryd.prog W 0 sp hd 43 v dd ps) :
    ∃ pp d c, d.length ≤ maxLen ∧ v = .slice pp d.length c ∧ (d = [] ∨ ∃ b off, pp = some ⟨b, off, none⟩ ∧ RowA W b off d) := by
  obtain ⟨a0, len, cap, rfl⟩ := okWide_slice Tryd.underlying43 hv
  obtain ⟨fuel, hf⟩ := h
  rcases open_slice Tryd.underlying43 hf with ⟨hcs, _⟩ | ⟨a, len', cap', m, n, D, Pq, hcs, _, hl, hm, hmm, _, hx⟩
  · simp [Value.cells] at hcs
    obtain ⟨rfl, rfl, rfl⟩ := hcs
    exact ⟨none, [], 0, by decide, rfl, Or.inl rfl⟩
  · simp [Value.cells] at hcs
    obtain ⟨rfl, rfl, rfl⟩ := hcs
    rcases Nat.eq_zero_or_pos len with rfl | hpos
    · exact ⟨_, [], cap, by decide, rfl, Or.inl rfl⟩
    · rw [Tryd.cellsAct] at hx
      have hlm : len ≤ m := by rw [hmm]; split <;> omega
      obtain ⟨f, hfq⟩ := choose_lt (α := Ac) (n := len) (p := fun i z => W.cells? 0 (a.add (i * 9)) 9 = some (encA z) ∧ WfA z) (fun i hi => by
        obtain ⟨cs', h1, h2⟩ := hx i (by omega)
        obtain ⟨_, hlen, _⟩ := World.cells?_some h1
        obtain ⟨z, rfl, wz⟩ := open_act_cells hlen h2
        exact ⟨z, h1, wz⟩)
      have hcell : ∀ i c, i < len → c < 9 → W.cell? (a.add (i * 9 + c)) = some ((encA (f i))[c]!) := by
        intro i c hi hc
        have := (World.cells?_some (hfq i hi).1).2.2 c hc
        rw [add_add] at this
        rw [this, List.getElem?_eq_getElem (by rw [encA_len]; exact hc), getElem!_pos _ c (by rw [encA_len]; exact hc)]
      have hsp : a.spot = none := by
        have := World.cell?_spot (hcell 0 0 hpos (by decide))
        simpa [Addr.add] using this
      obtain ⟨b, off, spot⟩ := a
      simp only at hsp
      subst hsp
      refine ⟨_, (List.range len).map f, cap, by simp; omega, by simp, Or.inr ⟨b, off, rfl, fun i z hz => ?_⟩⟩
      have hi : i < len := by
        have := (List.getElem?_eq_some_iff.1 hz).1
        simpa using this
      obtain rfl : f i = z := by simpa [hi] using hz
      have k : ∀ c, c < 9 → W.cell? ⟨b, off + (i * 9 + c), none⟩ = some ((encA (f i))[c]!) := fun c hc => by
        have := hcell i c hi hc
        rw [WideShapes.add_plain] at this
        exact this
      exact ⟨⟨k 0 (by decide), k 1 (by decide), k 2 (by decide), k 3 (by decide), k 4 (by decide), k 5 (by decide), k 6 (by decide), k 7 (by decide), k 8 (by decide)⟩, (hfq i hi).2⟩
theorem trodAll_five {H : Type} {enc : TypeId × Value → H} {P : Program} {w : World} {base : Nat} {spare : Nat → Bool} {held : Bool} {t t' t'' t3 t4 : TypeId} {args : Array Value} {ds : List (DataW H)} {ps : List MemPlace} (h : DataW.TrodAll enc P w base spare held [t, t', t'', t3, t4] args.toList ds ps) :
    ∃ v v' v'' v3 v4 d d' d'' d3 d4 p p' p'' p3 p4, args = #[v, v', v'', v3, v4] ∧ ds = [d, d', d'', d3, d4] ∧ ps = p ++ p' ++ p'' ++ p3 ++ p4 ∧ DataW.Trod enc P w base spare held t v d p ∧ DataW.Trod enc P w base spare held t' v' d' p' ∧ DataW.Trod enc P w base spare held t'' v'' d'' p'' ∧ DataW.Trod enc P w base spare held t3 v3 d3 p3 ∧ DataW.Trod enc P w base spare held t4 v4 d4 p4 := by
  obtain ⟨v, vs, d, ds', p, q, hargs, rfl, rfl, hd, hrest⟩ := trodAll_cons h
  obtain ⟨v', vs', d', ds'', p', q', rfl, rfl, rfl, hd', hrest'⟩ := trodAll_cons hrest
  obtain ⟨v'', vs'', d'', ds''', p'', q'', rfl, rfl, rfl, hd'', hrest''⟩ := trodAll_cons hrest'
  obtain ⟨v3, vs3, d3, ds3, p3, q3, rfl, rfl, rfl, hd3, hrest3⟩ := trodAll_cons hrest''
  obtain ⟨v4, vs4, d4, ds4, p4, q4, rfl, rfl, rfl, hd4, hrest4⟩ := trodAll_cons hrest3
  obtain ⟨rfl, rfl, rfl⟩ := trodAll_nil hrest4
  exact ⟨v, v', v'', v3, v4, d, d', d'', d3, d4, p, p', p'', p3, p4, by cases args; simp_all, rfl, by simp, hd, hd', hd'', hd3, hd4⟩
/-- The seven, as a row lists them. -/
def sevenList : List (Nat × String × List UInt8) := [
  (0, "tithebarn/api.ErrText", [116, 105, 116, 104, 101, 98, 97, 114, 110, 58, 32, 116, 101, 120, 116]),
  (2, "tithebarn/api.ErrBound", [116, 105, 116, 104, 101, 98, 97, 114, 110, 58, 32, 98, 111, 117, 110, 100]),
  (4, "tithebarn/api.ErrShape", [116, 105, 116, 104, 101, 98, 97, 114, 110, 58, 32, 115, 104, 97, 112, 101]),
  (1, "tithebarn/api.ErrName", [116, 105, 116, 104, 101, 98, 97, 114, 110, 58, 32, 110, 97, 109, 101]),
  (3, "tithebarn/api.ErrFull", [116, 105, 116, 104, 101, 98, 97, 114, 110, 58, 32, 102, 117, 108, 108]),
  (8, "tithebarn/api.ErrShort", [116, 105, 116, 104, 101, 98, 97, 114, 110, 58, 32, 115, 104, 111, 114, 116]),
  (9, "tithebarn/api.ErrOrder", [116, 105, 116, 104, 101, 98, 97, 114, 110, 58, 32, 111, 114, 100, 101, 114])]
theorem sevenList_ok : (sevenList.all fun x => decide (Tryd.prog.globalNamed x.2.1 = some x.1) && decide ((Tryd.prog.globals[x.1]?).map (·.type) = some 26)) = true := by kernel_rfl
theorem seven_of_laid {W : World} (h : laidMet Tryd.prog (sevenList.map fun x => (x.2.1, errD x.2.2)) W) : ∃ s, Six W s := by
  obtain ⟨ps, hl, hnd, hrows⟩ := h
  obtain ⟨al, _, _, _, hrow⟩ := sents_of_laid sevenList ps (fun x hx => by
    have := List.all_eq_true.1 sevenList_ok x hx
    simpa using this) hl hnd hrows
  let s : Nat → Addr := fun i => match i with | 0 => al.getD 0 ⟨0, 0, none⟩ | 1 => al.getD 1 ⟨0, 0, none⟩ | 2 => al.getD 2 ⟨0, 0, none⟩ | 4 => al.getD 3 ⟨0, 0, none⟩ | 7 => al.getD 4 ⟨0, 0, none⟩ | 8 => al.getD 5 ⟨0, 0, none⟩ | 9 => al.getD 6 ⟨0, 0, none⟩ | _ => ⟨0, 0, none⟩
  exact ⟨s, ⟨⟨⟨(hrow 1 (by decide)).1, (hrow 3 (by decide)).1⟩, (hrow 2 (by decide)).1, (hrow 4 (by decide)).1, (hrow 5 (by decide)).1⟩, (hrow 0 (by decide)).1, (hrow 6 (by decide)).1⟩⟩
theorem laidMet_perm {P : Program} {w : World} {l l' : List (String × DataW Unit)} (h : laidMet P l w) (hp : l.Perm l') : laidMet P l' w := by
  obtain ⟨ps, a, b, c⟩ := h
  obtain ⟨ps', a', hq⟩ := Lay.LaidVars_perm hp a
  exact ⟨ps', a', hq.nodup_iff.1 b, fun bk off hm => c bk off (hq.mem_iff.2 hm)⟩
end Go.Proofs.YtiegilnjfadhiabDoor
