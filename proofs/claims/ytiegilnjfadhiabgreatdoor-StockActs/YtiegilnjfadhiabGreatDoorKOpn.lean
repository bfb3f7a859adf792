/-
  From what a row lists of package-level variables to what the walks ask; a place among a row's data, down and up again; a slice of acts: the acts lie in a row; five parameters.
-/
import Derived.Test.YtiegilnjfadhiabGreatDoorRows
import Derived.Test.YtiegilnjfadhiabGreatDoorCode
import Derived.LaidLaws
import Derived.LaidHandle
import Derived.Stop.LaidErr
import Derived.Test.YtiegilnjfadhiabGreatDoorCom
import Derived.LaidMore
import Derived.Lib.LaidTab
import Derived.Test.YtiegilnjfadhiabGreatDoorKActs
import Derived.ProofKit
import Derived.OpenShut
import Derived.Stop.Joined
import Derived.Lib.SmallJoins
import Derived.Deep.Slices
import Derived.Lay
import Derived.Carry
namespace Go.Proofs.YtiegilnjfadhiabGreatDoor
open Go.ChangeShapes Go.WideShapes Go.RowKit

theorem Tryz.own : ownKnob Tryz.prog.godebug = none := by kernel_rfl
theorem Tryz.cellsE : Tryz.prog.cellsOf 215 = 1 := by kernel_rfl
theorem Tryz.cellsS : Tryz.prog.cellsOf 9 = 1 := by kernel_rfl
theorem Tryz.star : "*" ++ "errors.errorString" = "*errors.errorString" := by decide
theorem Tryz.rowE (u : TypeId) (h : Tryz.prog.typeName? 3 u = some "*errors.errorString") : u = 196 :=
  typeName_ptr_named (nm := "errors.errorString") (by rw [Tryz.star]; kernel_rfl) (by kernel_rfl) (by decide) u (by rw [Tryz.star]; exact h)

/-- An error of errors.New, read through. -/
abbrev errD (text : List UInt8) : DataW Unit := .iface "*errors.errorString" (.ptr (.agg [.lit (.string text)]))
def SentRow (W : World) (g : Nat) (a : Addr) : Prop := W.cell? ⟨g, 0, none⟩ = some (err a) ∧ ∃ c t, W.heap[a.block]? = some (.cells c t (0, 0))

set_option maxRecDepth 100000 in
theorem sents_of_laid {W : World} : ∀ (l : List (Nat × String × List UInt8)) (ps : List MemPlace), (∀ x ∈ l, Tryz.prog.globalNamed x.2.1 = some x.1 ∧ (Tryz.prog.globals[x.1]?).map (·.type) = some 25) →
    DataW.LaidVars Tryz.prog W (l.map fun x => (x.2.1, errD x.2.2)) ps → ps.Nodup →
    (∀ b off, MemPlace.cell b off ∈ ps → (∃ c t, W.heap[b]? = some (.cells c t (0, 0))) ∧ ∀ u v, W.cell? ⟨b, off, none⟩ = some (.iface u v) → Value.okWide Tryz.prog W .any 0 u v) →
    ∃ al : List Addr, al.length = l.length ∧ (∀ a ∈ al, MemPlace.cell a.block a.off ∈ ps) ∧ al.Nodup ∧ ∀ i, i < l.length → SentRow W (l.getD i (0, default, [])).1 (al.getD i ⟨0, 0, none⟩)
  | [], _, _, _, _, _ => ⟨[], rfl, (fun a h => by cases h), List.nodup_nil, fun i h => absurd h (Nat.not_lt_zero _)⟩
  | x :: l, ps, hx, hl, hnd, hrows => by
    obtain ⟨g, t, cs, fuel, p, q, hg, ht, hv, hd, hq, rfl⟩ := hl
    obtain ⟨hg', ht'⟩ := hx x (List.mem_cons_self ..)
    obtain rfl := Option.some.inj (hg'.symm.trans hg)
    obtain rfl := Option.some.inj (ht'.symm.trans ht)
    obtain ⟨cl⟩ := cs
    have ok : ∀ u v, cl = [.iface u v] → Value.okWide Tryz.prog W .any 0 u v := fun u v e => by
      subst e
      exact (hrows x.1 0 (by simp [MemPlace.row])).2 u v (by simpa using World.var?_cell hg hv 0)
    obtain ⟨a, s0, rfl, hc0, hs0, hz0, rfl⟩ := errorString_of_trod Tryz.underlying25 Tryz.rowE Tryz.underlying196 Tryz.underlying215 rfl rfl Tryz.underlying9 Tryz.cellsE Tryz.cellsS hd ok
    obtain ⟨al, hlen, hmem, hasnd, hrow⟩ := sents_of_laid l q (fun y hy => hx y (List.mem_cons_of_mem _ hy)) hq (List.Nodup.sublist (List.sublist_append_right _ _) hnd) (fun b off hm => hrows b off (List.mem_append_right _ hm))
    have hain : MemPlace.cell a.block a.off ∈ MemPlace.row ⟨x.1, 0, none⟩ (⟨[Value.iface 196 (Value.pointer (some a))]⟩ : Array Value).size ++ MemPlace.row a 1 := List.mem_append_right _ (by simp [MemPlace.row])
    refine ⟨a :: al, by simp [hlen], ?_, ?_, ?_⟩
    · intro b hb
      rcases List.mem_cons.1 hb with rfl | hb
      · exact List.mem_append_left _ hain
      · exact List.mem_append_right _ (hmem b hb)
    · refine List.nodup_cons.2 ⟨fun hin => ?_, hasnd⟩
      exact (List.nodup_append.1 hnd).2.2 _ hain _ (hmem a hin) rfl
    · intro i hi
      rcases i with _ | i
      · exact ⟨by simpa using World.var?_cell hg hv 0, (hrows a.block a.off (List.mem_append_left _ hain)).1⟩
      · simpa using hrow i (by simpa using hi)

/-- The twelve, as a row lists them. -/
def sentList : List (Nat × String × List UInt8) := [
  (4, "tithebarn/api.ErrText", [116, 105, 116, 104, 101, 98, 97, 114, 110, 58, 32, 116, 101, 120, 116]),
  (0, "tithebarn/api.ErrBound", [116, 105, 116, 104, 101, 98, 97, 114, 110, 58, 32, 98, 111, 117, 110, 100]),
  (3, "tithebarn/api.ErrShape", [116, 105, 116, 104, 101, 98, 97, 114, 110, 58, 32, 115, 104, 97, 112, 101]),
  (6, "tithebarn/api.ErrKind", [116, 105, 116, 104, 101, 98, 97, 114, 110, 58, 32, 107, 105, 110, 100]),
  (1, "tithebarn/api.ErrName", [116, 105, 116, 104, 101, 98, 97, 114, 110, 58, 32, 110, 97, 109, 101]),
  (7, "tithebarn/api.ErrNone", [116, 105, 116, 104, 101, 98, 97, 114, 110, 58, 32, 110, 111, 110, 101]),
  (8, "tithebarn/api.ErrExist", [116, 105, 116, 104, 101, 98, 97, 114, 110, 58, 32, 101, 120, 105, 115, 116]),
  (2, "tithebarn/api.ErrFull", [116, 105, 116, 104, 101, 98, 97, 114, 110, 58, 32, 102, 117, 108, 108]),
  (9, "tithebarn/api.ErrShort", [116, 105, 116, 104, 101, 98, 97, 114, 110, 58, 32, 115, 104, 111, 114, 116]),
  (5, "tithebarn/api.ErrOrder", [116, 105, 116, 104, 101, 98, 97, 114, 110, 58, 32, 111, 114, 100, 101, 114]),
  (10, "tithebarn/api.ErrState", [116, 105, 116, 104, 101, 98, 97, 114, 110, 58, 32, 115, 116, 97, 116, 101]),
  (11, "tithebarn/api.ErrOff", [116, 105, 116, 104, 101, 98, 97, 114, 110, 58, 32, 111, 102, 102])]
theorem sentList_ok : (sentList.all fun x => decide (Tryz.prog.globalNamed x.2.1 = some x.1) && decide ((Tryz.prog.globals[x.1]?).map (·.type) = some 25)) = true := by kernel_rfl

theorem sent_of_laid {W : World} (h : laidMet Tryz.prog (sentList.map fun x => (x.2.1, errD x.2.2)) W) : ∃ s, Sent W s := by
  obtain ⟨ps, hl, hnd, hrows⟩ := h
  obtain ⟨al, hlen, _, hasnd, hrow⟩ := sents_of_laid sentList ps (fun x hx => by
    have := List.all_eq_true.1 sentList_ok x hx
    simpa using this) hl hnd hrows
  have h12 : al.length = 12 := hlen
  refine ⟨fun i => al.getD i ⟨0, 0, none⟩, ?_, fun i hi => (hrow i hi).2, ?_⟩
  · intro i hi
    have hr := (hrow i hi).1
    rcases i with _ | _ | _ | _ | _ | _ | _ | _ | _ | _ | _ | _ | i
    all_goals first | exact hr | omega
  · intro i j hi hj he
    have e1 : al.getD i ⟨0, 0, none⟩ = al[i] := by rw [List.getD_eq_getElem?_getD, List.getElem?_eq_getElem (by omega)]; rfl
    have e2 : al.getD j ⟨0, 0, none⟩ = al[j] := by rw [List.getD_eq_getElem?_getD, List.getElem?_eq_getElem (by omega)]; rfl
    simp only [e1, e2] at he
    exact (List.getElem_inj hasnd).1 he

theorem Tryz.etG : Tryz.prog.globalNamed "errors.errorType" = some 12 := by kernel_rfl
theorem Tryz.etR : (Tryz.prog.cutTypes.find? (·.1 == "internal/reflectlite.rtype")).map (·.2) = some 146 := by kernel_rfl
theorem Tryz.etOne : ((List.range 227).filter fun t => Tryz.prog.rowNamed t [101, 114, 114, 111, 114]) = [25] := by kernel_rfl
theorem Tryz.etSize : Tryz.prog.types.size = 227 := by kernel_rfl
theorem handle_of_laid {W : World} (h : handlesMet Tryz.prog [("errors.errorType", Rows.laid_errors_errorType)] W) : Handle W := by
  obtain ⟨name, u, ty, e1, e2, e3, e4, e5⟩ := h _ (List.mem_singleton.2 rfl)
  have en : name = [101, 114, 114, 111, 114] := (Option.some.inj e1).symm
  subst en
  obtain rfl := Option.some.inj (Tryz.etR.symm.trans e2)
  have hm : ty ∈ (List.range 227).filter fun t => Tryz.prog.rowNamed t [101, 114, 114, 111, 114] := List.mem_filter.2 ⟨List.mem_range.2 (by rw [← Tryz.etSize]; exact e3), e4⟩
  rw [Tryz.etOne] at hm
  obtain rfl := List.mem_singleton.1 hm
  have hh : typeHandle Tryz.prog 25 = .pointer (some ⟨19, 25, none⟩) := by kernel_rfl
  rw [hh] at e5
  unfold Handle
  simpa using World.var?_cell Tryz.etG e5 0
end Go.Proofs.YtiegilnjfadhiabGreatDoor
namespace Go.Proofs.YtiegilnjfadhiabGreatDoor
open Go.ChangeShapes Go.WideShapes Go.RowKit

theorem Tryz.gPow : Tryz.prog.globalNamed "internal/strconv.uint64pow10" = some 14 := by kernel_rfl
theorem Tryz.gPowType : (Tryz.prog.globals[14]?).map (·.type) = some 186 := by kernel_rfl
theorem Tryz.cellsPow : Tryz.prog.cellsOf 186 = 20 := by kernel_rfl
theorem Tryz.cellsU64 : Tryz.prog.cellsOf 170 = 1 := by kernel_rfl
theorem pow_of_laid {W : World} {rest : List (String × DataW Unit)} (h : laidMet Tryz.prog (("internal/strconv.uint64pow10", Rows.laid_internal_strconv_uint64pow10) :: rest) W) : Pow W :=
  Lib.tabIs_of_head (k := .u64) (zs := Lib.pow10Tab) Tryz.gPow Tryz.gPowType Tryz.underlying186 Tryz.underlying170 Tryz.cellsU64 Tryz.cellsPow h
/-- The two, as a row lists them. -/
def twoList : List (Nat × String × List UInt8) := [
  (0, "tithebarn/api.ErrBound", [116, 105, 116, 104, 101, 98, 97, 114, 110, 58, 32, 98, 111, 117, 110, 100]),
  (1, "tithebarn/api.ErrName", [116, 105, 116, 104, 101, 98, 97, 114, 110, 58, 32, 110, 97, 109, 101])]
theorem twoList_ok : (twoList.all fun x => decide (Tryz.prog.globalNamed x.2.1 = some x.1) && decide ((Tryz.prog.globals[x.1]?).map (·.type) = some 25)) = true := by kernel_rfl
theorem two_of_laid {W : World} (h : laidMet Tryz.prog (twoList.map fun x => (x.2.1, errD x.2.2)) W) : ∃ s, Two W s := by
  obtain ⟨ps, hl, hnd, hrows⟩ := h
  obtain ⟨al, _, _, _, hrow⟩ := sents_of_laid twoList ps (fun x hx => by
    have := List.all_eq_true.1 twoList_ok x hx
    simpa using this) hl hnd hrows
  refine ⟨fun i => if i = 1 then al.getD 0 ⟨0, 0, none⟩ else al.getD 1 ⟨0, 0, none⟩, ?_, ?_⟩
  · exact (hrow 0 (by decide)).1
  · exact (hrow 1 (by decide)).1
end Go.Proofs.YtiegilnjfadhiabGreatDoor
namespace Go.Proofs.YtiegilnjfadhiabGreatDoor
open Go.Joins Go.Deep
open Go.Sort Go.Lib
open Go.ChangeMaps (open_string shut_string)
open Go.ChangeShapes Go.WideShapes Go.ChangeAt Go.WideMaps Go.WideElems Go.RowKit

theorem Tryz.cellsPlace : Tryz.prog.cellsOf 41 = 3 := by kernel_rfl
theorem Tryz.cellsAct : Tryz.prog.cellsOf 44 = 9 := by kernel_rfl
/-- The datum of a place. -/
abbrev datP {H : Type} (a : ByteArray) (r b : Int) : DataW H := .agg [.lit (.string a.data.toList), .lit (.int .i64 r), .lit (.int .i64 b)]
set_option maxRecDepth 100000 in
theorem open_place {H : Type} {enc : TypeId × Value → H} {W : World} {base b0 : Nat} {v : Value} {d : DataW H} {p : List MemPlace} {sp : Nat → Bool} {hd : Bool} (hv : Value.okWide Tryz.prog W .any b0 41 v) (h : DataW.Trod enc Tryz.prog W base sp hd 41 v d p) :
    ∃ a r b, v = agP (a, r, b) ∧ d = datP a r b ∧ p = [] ∧ a.size ≤ maxLen ∧ (Lit.int .i64 r).wf = true ∧ (Lit.int .i64 b).wf = true := by
  obtain ⟨c0, c1, c2, y0, y1, y2, m, rfl, rfl, rfl, hy0, hy1, hy2⟩ := open_agg3 Tryz.underlying41 (by kernel_rfl) Tryz.cellsPlace hv h
  obtain ⟨a, e0, rfl, wa⟩ := DataW.trod_string Tryz.underlying9 hy0
  obtain ⟨r, e1, rfl, wr⟩ := DataW.trod_int Tryz.underlying3 hy1
  obtain ⟨b, e2, rfl, wb⟩ := DataW.trod_int Tryz.underlying3 hy2
  simp at e0 e1 e2
  subst e0 e1 e2
  exact ⟨a, r, b, rfl, rfl, rfl, wa, wr, wb⟩
set_option maxRecDepth 100000 in
theorem shut_place {H : Type} {enc : TypeId × Value → H} {W : World} {base : Nat} {sp : Nat → Bool} {hd : Bool} {a : ByteArray} {r b : Int} (wa : a.size ≤ maxLen) (wr : (Lit.int .i64 r).wf = true) (wb : (Lit.int .i64 b).wf = true) :
    DataW.Trod enc Tryz.prog W base sp hd 41 (agP (a, r, b)) (datP a r b) [] :=
  shut_agg3 (y0 := (.lit (.string a.data.toList), [])) (y1 := (.lit (.int .i64 r), [])) (y2 := (.lit (.int .i64 b), [])) Tryz.underlying41 (by kernel_rfl) Tryz.cellsPlace ⟨1, by simp [DataW.trod, Tryz.underlying9, wa]⟩ ⟨1, by simp [DataW.trod, Tryz.underlying3, wr]⟩ ⟨1, by simp [DataW.trod, Tryz.underlying3, wb]⟩
set_option maxRecDepth 100000 in
/-- One place, from its cells. -/
theorem open_place_cells {H : Type} {enc : TypeId × Value → H} {W : World} {base n : Nat} {c0 c1 c2 : Value} {x : DataW H × List MemPlace} {sp : Nat → Bool} {hd : Bool} (h : DataW.trod enc Tryz.prog W base sp hd n 41 [c0, c1, c2] = some x) :
    ∃ p : Pl, c0 = .string p.1 ∧ c1 = .int .i64 p.2.1 ∧ c2 = .int .i64 p.2.2 ∧ p.1.size ≤ maxLen ∧ (Lit.int .i64 p.2.1).wf = true ∧ (Lit.int .i64 p.2.2).wf = true := by
  obtain ⟨y0, y1, y2, m, hx, _, h0, h1, h2⟩ := trod_struct3 Tryz.underlying41 h
  have k0 : Tryz.prog.cellsOf 9 = 1 := by kernel_rfl
  have k1 : Tryz.prog.cellsOf 3 = 1 := by kernel_rfl
  simp [k0, k1] at h0 h1 h2
  obtain ⟨a, e0, _, wa⟩ := DataW.trod_string Tryz.underlying9 h0
  obtain ⟨r, e1, _, wr⟩ := DataW.trod_int Tryz.underlying3 h1
  obtain ⟨b, e2, _, wb⟩ := DataW.trod_int Tryz.underlying3 h2
  simp at e0 e1 e2
  exact ⟨(a, r, b), e0, e1, e2, wa, wr, wb⟩
set_option maxRecDepth 100000 in
/-- One act, from its cells. -/
theorem open_act_cells {H : Type} {enc : TypeId × Value → H} {W : World} {base n : Nat} {cs : List Value} {x : DataW H × List MemPlace} {sp : Nat → Bool} {hd : Bool} (hl : cs.length = 9) (h : DataW.trod enc Tryz.prog W base sp hd n 44 cs = some x) :
    ∃ z : Ac, cs = encA z ∧ WfA z := by
  obtain ⟨xs, m, _, _, _, hlen, hf⟩ := DataW.trod_struct Tryz.underlying44 h
  match cs, hl with
  | [c0, c1, c2, c3, c4, c5, c6, c7, c8], _ =>
    match xs, hlen with
    | [y0, y1, y2, y3, y4], _ =>
      have k0 : Tryz.prog.cellsOf 9 = 1 := by kernel_rfl
      have k1 : Tryz.prog.cellsOf 3 = 1 := by kernel_rfl
      have h0 := hf 0 _ rfl
      have h1 := hf 1 _ rfl
      have h2 := hf 2 _ rfl
      have h3 := hf 3 _ rfl
      have h4 := hf 4 _ rfl
      simp [k0, k1, Tryz.cellsPlace] at h0 h1 h2 h3 h4
      obtain ⟨a, e0, _, wa⟩ := DataW.trod_string Tryz.underlying9 h0
      obtain ⟨p, p0, p1, p2, wp0, wp1, wp2⟩ := open_place_cells h1
      obtain ⟨q, q0, q1, q2, wq0, wq1, wq2⟩ := open_place_cells h2
      obtain ⟨c, e3, _, wc⟩ := DataW.trod_string Tryz.underlying9 h3
      obtain ⟨k, e4, _, wk⟩ := DataW.trod_int Tryz.underlying3 h4
      simp at e0 e3 e4
      subst e0 e3 e4 p0 p1 p2 q0 q1 q2
      exact ⟨(a, p, q, c, k), rfl, ⟨⟨wp0, wp1, wp2, wc⟩, ⟨wq0, wq1, wq2, wc⟩, wk⟩⟩
set_option maxRecDepth 100000 in
theorem open_acts {H : Type} {enc : TypeId × Value → H} {W : World} {b0 : Nat} {v : Value} {dd : DataW H} {ps : List MemPlace} {sp : Nat → Bool} {hd : Bool} (hv : Value.okWide Tryz.prog W .any b0 39 v) (h : DataW.Trod enc Tryz.prog W 0 sp hd 39 v dd ps) :
    ∃ pp d c, d.length ≤ maxLen ∧ v = .slice pp d.length c ∧ (d = [] ∨ ∃ b off, pp = some ⟨b, off, none⟩ ∧ RowA W b off d) := by
  obtain ⟨a0, len, cap, rfl⟩ := okWide_slice Tryz.underlying39 hv
  obtain ⟨fuel, hf⟩ := h
  rcases open_slice Tryz.underlying39 hf with ⟨hcs, _⟩ | ⟨a, len', cap', m, n, D, Pq, hcs, _, hl, hm, hmm, _, hx⟩
  · simp [Value.cells] at hcs
    obtain ⟨rfl, rfl, rfl⟩ := hcs
    exact ⟨none, [], 0, by decide, rfl, Or.inl rfl⟩
  · simp [Value.cells] at hcs
    obtain ⟨rfl, rfl, rfl⟩ := hcs
    rcases Nat.eq_zero_or_pos len with rfl | hpos
    · exact ⟨_, [], cap, by decide, rfl, Or.inl rfl⟩
    · rw [Tryz.cellsAct] at hx
      have hlm : len ≤ m := by rw [hmm]; split <;> omega
      obtain ⟨f, hfq⟩ := choose_lt (α := Ac) (n := len) (p := fun i z => W.cells? 0 (a.add (i * 9)) 9 = some (encA z) ∧ WfA z) (fun i hi => by
        obtain ⟨cs', h1, h2⟩ := hx i (by omega)
        obtain ⟨_, hlen, _⟩ := World.cells?_some h1
        obtain ⟨z, rfl, wz⟩ := open_act_cells hlen h2
        exact ⟨z, h1, wz⟩)
      have hcell : ∀ i c, i < len → c < 9 → W.cell? (a.add (i * 9 + c)) = some ((encA (f i))[c]!) := by
        intro i c hi hc
        have := (World.cells?_some (hfq i hi).1).2.2 c hc
        rw [add_add] at this
        rw [this, List.getElem?_eq_getElem (by rw [encA_len]; exact hc), getElem!_pos _ c (by rw [encA_len]; exact hc)]
      have hsp : a.spot = none := by
        have := World.cell?_spot (hcell 0 0 hpos (by decide))
        simpa [Addr.add] using this
      obtain ⟨b, off, spot⟩ := a
      simp only at hsp
      subst hsp
      refine ⟨_, (List.range len).map f, cap, by simp; omega, by simp, Or.inr ⟨b, off, rfl, fun i z hz => ?_⟩⟩
      have hi : i < len := by
        have := (List.getElem?_eq_some_iff.1 hz).1
        simpa using this
      obtain rfl : f i = z := by simpa [hi] using hz
      have k : ∀ c, c < 9 → W.cell? ⟨b, off + (i * 9 + c), none⟩ = some ((encA (f i))[c]!) := fun c hc => by
        have := hcell i c hi hc
        rw [WideShapes.add_plain] at this
        exact this
      exact ⟨⟨k 0 (by decide), k 1 (by decide), k 2 (by decide), k 3 (by decide), k 4 (by decide), k 5 (by decide), k 6 (by decide), k 7 (by decide), k 8 (by decide)⟩, (hfq i hi).2⟩
theorem trodAll_five {H : Type} {enc : TypeId × Value → H} {P : Program} {w : World} {base : Nat} {spare : Nat → Bool} {held : Bool} {t t' t'' t3 t4 : TypeId} {args : Array Value} {ds : List (DataW H)} {ps : List MemPlace} (h : DataW.TrodAll enc P w base spare held [t, t', t'', t3, t4] args.toList ds ps) :
    ∃ v v' v'' v3 v4 d d' d'' d3 d4 p p' p'' p3 p4, args = #[v, v', v'', v3, v4] ∧ ds = [d, d', d'', d3, d4] ∧ ps = p ++ p' ++ p'' ++ p3 ++ p4 ∧ DataW.Trod enc P w base spare held t v d p ∧ DataW.Trod enc P w base spare held t' v' d' p' ∧ DataW.Trod enc P w base spare held t'' v'' d'' p'' ∧ DataW.Trod enc P w base spare held t3 v3 d3 p3 ∧ DataW.Trod enc P w base spare held t4 v4 d4 p4 := by
  obtain ⟨v, vs, d, ds', p, q, hargs, rfl, rfl, hd, hrest⟩ := trodAll_cons h
  obtain ⟨v', vs', d', ds'', p', q', rfl, rfl, rfl, hd', hrest'⟩ := trodAll_cons hrest
  obtain ⟨v'', vs'', d'', ds''', p'', q'', rfl, rfl, rfl, hd'', hrest''⟩ := trodAll_cons hrest'
  obtain ⟨v3, vs3, d3, ds3, p3, q3, rfl, rfl, rfl, hd3, hrest3⟩ := trodAll_cons hrest''
  obtain ⟨v4, vs4, d4, ds4, p4, q4, rfl, rfl, rfl, hd4, hrest4⟩ := trodAll_cons hrest3
  obtain ⟨rfl, rfl, rfl⟩ := trodAll_nil hrest4
  exact ⟨v, v', v'', v3, v4, d, d', d'', d3, d4, p, p', p'', p3, p4, by cases args; simp_all, rfl, by simp, hd, hd', hd'', hd3, hd4⟩
/-- The seven, as a row lists them. -/
def sevenList : List (Nat × String × List UInt8) := [
  (4, "tithebarn/api.ErrText", [116, 105, 116, 104, 101, 98, 97, 114, 110, 58, 32, 116, 101, 120, 116]),
  (0, "tithebarn/api.ErrBound", [116, 105, 116, 104, 101, 98, 97, 114, 110, 58, 32, 98, 111, 117, 110, 100]),
  (3, "tithebarn/api.ErrShape", [116, 105, 116, 104, 101, 98, 97, 114, 110, 58, 32, 115, 104, 97, 112, 101]),
  (1, "tithebarn/api.ErrName", [116, 105, 116, 104, 101, 98, 97, 114, 110, 58, 32, 110, 97, 109, 101]),
  (2, "tithebarn/api.ErrFull", [116, 105, 116, 104, 101, 98, 97, 114, 110, 58, 32, 102, 117, 108, 108]),
  (9, "tithebarn/api.ErrShort", [116, 105, 116, 104, 101, 98, 97, 114, 110, 58, 32, 115, 104, 111, 114, 116]),
  (5, "tithebarn/api.ErrOrder", [116, 105, 116, 104, 101, 98, 97, 114, 110, 58, 32, 111, 114, 100, 101, 114])]
theorem sevenList_ok : (sevenList.all fun x => decide (Tryz.prog.globalNamed x.2.1 = some x.1) && decide ((Tryz.prog.globals[x.1]?).map (·.type) = some 25)) = true := by kernel_rfl
theorem seven_of_laid {W : World} (h : laidMet Tryz.prog (sevenList.map fun x => (x.2.1, errD x.2.2)) W) : ∃ s, Six W s := by
  obtain ⟨ps, hl, hnd, hrows⟩ := h
  obtain ⟨al, _, _, _, hrow⟩ := sents_of_laid sevenList ps (fun x hx => by
    have := List.all_eq_true.1 sevenList_ok x hx
    simpa using this) hl hnd hrows
  let s : Nat → Addr := fun i => match i with | 0 => al.getD 0 ⟨0, 0, none⟩ | 1 => al.getD 1 ⟨0, 0, none⟩ | 2 => al.getD 2 ⟨0, 0, none⟩ | 4 => al.getD 3 ⟨0, 0, none⟩ | 7 => al.getD 4 ⟨0, 0, none⟩ | 8 => al.getD 5 ⟨0, 0, none⟩ | 9 => al.getD 6 ⟨0, 0, none⟩ | _ => ⟨0, 0, none⟩
  exact ⟨s, ⟨⟨⟨(hrow 1 (by decide)).1, (hrow 3 (by decide)).1⟩, (hrow 2 (by decide)).1, (hrow 4 (by decide)).1, (hrow 5 (by decide)).1⟩, (hrow 0 (by decide)).1, (hrow 6 (by decide)).1⟩⟩
theorem laidMet_perm {P : Program} {w : World} {l l' : List (String × DataW Unit)} (h : laidMet P l w) (hp : l.Perm l') : laidMet P l' w := by
  obtain ⟨ps, a, b, c⟩ := h
  obtain ⟨ps', a', hq⟩ := Lay.LaidVars_perm hp a
  exact ⟨ps', a', hq.nodup_iff.1 b, fun bk off hm => c bk off (hq.mem_iff.2 hm)⟩
end Go.Proofs.YtiegilnjfadhiabGreatDoor
