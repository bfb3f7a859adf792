/-
  An entry as an argument, opened; from what a row lists of package-level variables to what the walks of entries ask.
-/
import Derived.Test.YtgdhfipbbijngaaGreatDoorRows
import Derived.Test.YtgdhfipbbijngaaGreatDoorEzB
import Derived.Test.YtgdhfipbbijngaaGreatDoorLaid
import Derived.Test.YtgdhfipbbijngaaGreatDoorPLaid
import Derived.LaidMore
import Derived.Lay
import Derived.Carry
import Derived.LaidLaws
import Derived.OpenShut
import Derived.Lib.LaidTab
import Derived.Lib.SmallJoins
import Derived.Deep.Strs
namespace Go.Proofs.YtgdhfipbbijngaaGreatDoor
open Go.Joins Go.Deep
open Go.ChangeMaps (open_string shut_string)
open Go.ChangeShapes Go.WideShapes Go.ChangeAt Go.WideMaps Go.WideElems Go.RowKit

theorem Tryz.cEnt : Tryz.prog.cellsOf 29 = 14 := by kernel_rfl
theorem Tryz.cPla : Tryz.prog.cellsOf 27 = 3 := by kernel_rfl
theorem Tryz.cGoo : Tryz.prog.cellsOf 23 = 2 := by kernel_rfl
theorem Tryz.cLot : Tryz.prog.cellsOf 25 = 4 := by kernel_rfl
theorem Tryz.cStr : Tryz.prog.cellsOf 9 = 1 := by kernel_rfl
theorem Tryz.cInt : Tryz.prog.cellsOf 3 = 1 := by kernel_rfl
set_option maxRecDepth 100000 in
theorem open_pl {H : Type} {enc : TypeId × Value → H} {W : World} {base n : Nat} {c0 c1 c2 : Value} {x : DataW H × List MemPlace} {sp : Nat → Bool} {hd : Bool} (h : DataW.trod enc Tryz.prog W base sp hd n 27 [c0, c1, c2] = some x) :
    ∃ p : Pl, c0 = .string p.1 ∧ c1 = .int .i64 p.2.1 ∧ c2 = .int .i64 p.2.2 ∧ p.1.size ≤ maxLen := by
  obtain ⟨y0, y1, y2, m, hx, _, h0, h1, h2⟩ := trod_struct3 Tryz.underlying27 h
  simp [Tryz.cStr, Tryz.cInt] at h0 h1 h2
  obtain ⟨a, e0, _, wa⟩ := DataW.trod_string Tryz.underlying9 h0
  obtain ⟨r, e1, _, wr⟩ := DataW.trod_int Tryz.underlying3 h1
  obtain ⟨b, e2, _, wb⟩ := DataW.trod_int Tryz.underlying3 h2
  simp at e0 e1 e2
  exact ⟨(a, r, b), e0, e1, e2, wa⟩
set_option maxRecDepth 100000 in
theorem open_gd {H : Type} {enc : TypeId × Value → H} {W : World} {base n : Nat} {c0 c1 : Value} {x : DataW H × List MemPlace} {sp : Nat → Bool} {hd : Bool} (h : DataW.trod enc Tryz.prog W base sp hd n 23 [c0, c1] = some x) :
    ∃ p : Gd, c0 = .string p.1 ∧ c1 = .int .i64 p.2 ∧ p.1.size ≤ maxLen := by
  obtain ⟨y0, y1, m, hx, _, h0, h1⟩ := trod_struct2 Tryz.underlying23 h
  simp [Tryz.cStr, Tryz.cInt] at h0 h1
  obtain ⟨a, e0, _, wa⟩ := DataW.trod_string Tryz.underlying9 h0
  obtain ⟨r, e1, _, wr⟩ := DataW.trod_int Tryz.underlying3 h1
  simp at e0 e1
  exact ⟨(a, r), e0, e1, wa⟩
set_option maxRecDepth 100000 in
theorem open_lo {H : Type} {enc : TypeId × Value → H} {W : World} {base n : Nat} {c0 c1 c2 c3 : Value} {x : DataW H × List MemPlace} {sp : Nat → Bool} {hd : Bool} (h : DataW.trod enc Tryz.prog W base sp hd n 25 [c0, c1, c2, c3] = some x) :
    ∃ p : Lo, c0 = .string p.1 ∧ c1 = .string p.2.1 ∧ c2 = .int .i64 p.2.2.1 ∧ c3 = .int .i64 p.2.2.2 ∧ p.1.size ≤ maxLen ∧ p.2.1.size ≤ maxLen := by
  obtain ⟨y0, y1, y2, y3, m, hx, _, h0, h1, h2, h3⟩ := trod_struct4 Tryz.underlying25 h
  simp [Tryz.cStr, Tryz.cInt] at h0 h1 h2 h3
  obtain ⟨a, e0, _, wa⟩ := DataW.trod_string Tryz.underlying9 h0
  obtain ⟨c, e1, _, wc⟩ := DataW.trod_string Tryz.underlying9 h1
  obtain ⟨u, e2, _, wu⟩ := DataW.trod_int Tryz.underlying3 h2
  obtain ⟨k, e3, _, wk⟩ := DataW.trod_int Tryz.underlying3 h3
  simp at e0 e1 e2 e3
  exact ⟨(a, c, u, k), e0, e1, e2, e3, wa, wc⟩
set_option maxRecDepth 100000 in
/-- An entry, by value. -/
theorem open_entry {H : Type} {enc : TypeId × Value → H} {W : World} {base b0 : Nat} {v : Value} {d : DataW H} {p : List MemPlace} {sp : Nat → Bool} {hd : Bool} (hv : Value.okWide Tryz.prog W .any b0 29 v) (h : DataW.Trod enc Tryz.prog W base sp hd 29 v d p) :
    ∃ e : En, v = agE e ∧ SzE e := by
  obtain ⟨cs, rfl, hsz⟩ := okWide_struct Tryz.underlying29 hv
  obtain ⟨l⟩ := cs
  obtain ⟨fuel, hf⟩ := h
  have hl : l.length = 14 := hsz.trans Tryz.cEnt
  match l, hl with
  | [c0, c1, c2, c3, c4, c5, c6, c7, c8, c9, c10, c11, c12, c13], _ =>
    obtain ⟨xs, m, _, _, _, hlen, hg⟩ := DataW.trod_struct Tryz.underlying29 hf
    match xs, hlen with
    | [y0, y1, y2, y3, y4, y5], _ =>
      have h0 := hg 0 _ rfl
      have h1 := hg 1 _ rfl
      have h2 := hg 2 _ rfl
      have h3 := hg 3 _ rfl
      have h4 := hg 4 _ rfl
      have h5 := hg 5 _ rfl
      simp [Value.cells, Tryz.cStr, Tryz.cInt, Tryz.cPla, Tryz.cGoo, Tryz.cLot] at h0 h1 h2 h3 h4 h5
      obtain ⟨k, e0, _, wk⟩ := DataW.trod_string Tryz.underlying9 h0
      obtain ⟨g, g0, g1, wg⟩ := open_gd h1
      obtain ⟨o, o0, o1, o2, o3, wo0, wo1⟩ := open_lo h2
      obtain ⟨f, f0, f1, f2, wf⟩ := open_pl h3
      obtain ⟨t, t0, t1, t2, wt⟩ := open_pl h4
      obtain ⟨n, e5, _, wn⟩ := DataW.trod_int Tryz.underlying3 h5
      simp at e0 e5
      subst e0 e5 g0 g1 o0 o1 o2 o3 f0 f1 f2 t0 t1 t2
      exact ⟨(k, g, o, f, t, n), rfl, ⟨wk, wg, wo0, wo1, wf, wt⟩⟩
/-- The five, as a row lists them. -/
def fiveList : List (Nat × String × List UInt8) := [
  (1, "tithebarn/api.ErrText", [116, 105, 116, 104, 101, 98, 97, 114, 110, 58, 32, 116, 101, 120, 116]),
  (2, "tithebarn/api.ErrBound", [116, 105, 116, 104, 101, 98, 97, 114, 110, 58, 32, 98, 111, 117, 110, 100]),
  (0, "tithebarn/api.ErrShape", [116, 105, 116, 104, 101, 98, 97, 114, 110, 58, 32, 115, 104, 97, 112, 101]),
  (3, "tithebarn/api.ErrKind", [116, 105, 116, 104, 101, 98, 97, 114, 110, 58, 32, 107, 105, 110, 100]),
  (4, "tithebarn/api.ErrName", [116, 105, 116, 104, 101, 98, 97, 114, 110, 58, 32, 110, 97, 109, 101])]
theorem fiveList_ok : (fiveList.all fun x => decide (Tryz.prog.globalNamed x.2.1 = some x.1) && decide ((Tryz.prog.globals[x.1]?).map (·.type) = some 33)) = true := by kernel_rfl
theorem five_of_laid {W : World} (h : laidMet Tryz.prog (fiveList.map fun x => (x.2.1, errD x.2.2)) W) : ∃ s, Es W s := by
  obtain ⟨ps, hl, hnd, hrows⟩ := h
  obtain ⟨al, _, _, _, hrow⟩ := sents_of_laid fiveList ps (fun x hx => by
    have := List.all_eq_true.1 fiveList_ok x hx
    simpa using this) hl hnd hrows
  exact ⟨fun i => al.getD i ⟨0, 0, none⟩, ⟨⟨⟨(hrow 1 (by decide)).1, (hrow 4 (by decide)).1⟩, (hrow 0 (by decide)).1⟩, (hrow 2 (by decide)).1, (hrow 3 (by decide)).1⟩⟩
theorem laidMet_permE {P : Program} {w : World} {l l' : List (String × DataW Unit)} (h : laidMet P l w) (hp : l.Perm l') : laidMet P l' w := by
  obtain ⟨ps, a, b, c⟩ := h
  obtain ⟨ps', a', hq⟩ := Lay.LaidVars_perm hp a
  exact ⟨ps', a', hq.nodup_iff.1 b, fun bk off hm => c bk off (hq.mem_iff.2 hm)⟩
end Go.Proofs.YtgdhfipbbijngaaGreatDoor
