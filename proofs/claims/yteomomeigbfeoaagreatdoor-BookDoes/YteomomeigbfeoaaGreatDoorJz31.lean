/-
 What a book's Goods answers: its goods by codes, in memory of their own; nothing old is turned.
-/
import Derived.Test.YteomomeigbfeoaaGreatDoorJz14
import Derived.Test.YteomomeigbfeoaaGreatDoorJz16
import Derived.Test.YteomomeigbfeoaaGreatDoorJz5
import Derived.Test.YteomomeigbfeoaaGreatDoorGenK
import Derived.Shelf.SlSortCmp.NoneTotal
import Derived.Test.YteomomeigbfeoaaGreatDoorLSorts
import Derived.Test.YteomomeigbfeoaaGreatDoorJz12
import Derived.Test.YteomomeigbfeoaaGreatDoorJz29
import Derived.Laws.StructEq
import Derived.Test.YteomomeigbfeoaaGreatDoorQTurnD
import Derived.Test.YteomomeigbfeoaaGreatDoorJz13
import Derived.Test.YteomomeigbfeoaaGreatDoorJz1
set_option maxRecDepth 100000
set_option maxHeartbeats 16000000
namespace Go.Proofs.YteomomeigbfeoaaGreatDoor
open Go.RowKit Go.Shelf Go.Lib Go.Sort
def cmpG (x y : Gs) : Int := cmpZ (nameG x) (nameG y)
def aheadG (x y : Gs) : Bool := decide (cmpG x y < 0)
theorem aheadG_lt (x y : Gs) : aheadG x y = zLt (nameG x) (nameG y) := by
 unfold aheadG cmpG
 rcases cmpZ_cases (nameG x) (nameG y) with ⟨h1, h2, h3, h4⟩ | ⟨h1, h2, h3, h4⟩ | ⟨h1, h2, h3, h4⟩
 ·rw [h4, h1]; rfl
 ·rw [h4, h1]; rfl
 ·rw [h4, h1]; rfl
theorem zLt_other {a b : ByteArray} (h : zLt a b = false) (hne : a ≠ b) : zLt b a = true := by
 rcases cmpZ_cases a b with ⟨h1, h2, h3, h4⟩ | ⟨h1, h2, h3, h4⟩ | ⟨h1, h2, h3, h4⟩
 ·rw [h1] at h; cases h
 ·exact h2
 ·exact absurd h3 hne
theorem swoG : SWO aheadG where
 irrefl x := by rw [aheadG_lt]; exact zLt_irrefl _
 trans x y z h1 h2 := by rw [aheadG_lt] at *; exact zLt_trans h1 h2
 ntrans x y z h1 h2 := by
  rw [aheadG_lt] at *
  by_cases e : nameG x = nameG y
  ·rw [e]; exact h2
  ·have h3 := zLt_other h1 e
   cases h : zLt (nameG x) (nameG z) with
   | false => rfl
   | true => rw [zLt_trans h3 h] at h2; cases h2
theorem gcompare_any (x y : Gs) (w : World) : Calls Tryz.prog 58 #[.agg #[.string x.1.1, .int .i64 x.1.2], .agg #[.string y.1.1, .int .i64 y.1.2]] w fun e w' => e = .returned (.int .i64 (cmpG x y)) ∧ ∃ q os, w' = grow (w.drewN q) os := by
 have h1 : ∀ w, Calls Tryz.prog 59 #[.string x.1.1, .string y.1.1] w fun e w' => e = .returned (.int .i64 (cmpG x y)) ∧ w' = w := fun w => cmpS_any x.1.1 y.1.1 w
 generalize cmpG x y = c1 at *
 obtain ⟨⟨a, p⟩, s⟩ := x
 obtain ⟨⟨a', p'⟩, s'⟩ := y
 simp only at *
 go_enter Tryz.func58, Tryz.ntmps58
 go_wp2_with (go_at_call 59; refine (h1 _).mono ?_; rintro e w1 ⟨rfl, hw⟩; have hw' := hw.symm; subst hw')
 go_ret
 exact ⟨rfl, ((Grew.refl w).alloc _).alloc _⟩
theorem encGd_len (x : Gs) : (encGd.enc x).length = 2 := rfl
theorem cmpLaysG (blk off size : Nat) (w : World) : CmpLays Tryz.prog 58 #[] encGd.enc 2 cmpG blk off size w := fun _ _ _ _ x y => gcompare_any x y _
theorem gs_perm_eq : ∀ {m m' : List Gs}, m.Pairwise (fun a b => zLt (nameG a) (nameG b) = true) → m'.Pairwise (fun a b => zLt (nameG a) (nameG b) = true) → m.Perm m' → m = m'
 | [], m', _, _, hp => (List.nil_perm.1 hp).symm
 | a :: m, [], _, _, hp => by have := hp.length_eq; simp at this
 | a :: m, b :: m', h, h', hp => by
  obtain ⟨h1, h2⟩ := List.pairwise_cons.1 h
  obtain ⟨h3, h4⟩ := List.pairwise_cons.1 h'
  have e : a = b := by
   rcases List.mem_cons.1 (hp.mem_iff.1 (List.mem_cons_self ..)) with e | e
   ·exact e
   ·rcases List.mem_cons.1 (hp.mem_iff.2 (List.mem_cons_self ..)) with e' | e'
    ·exact e'.symm
    ·have k1 := h3 a e
     have k2 := h1 b e'
     have := zLt_trans k1 k2
     rw [zLt_irrefl] at this
     cases this
  subst e
  rw [gs_perm_eq h2 h4 (List.Perm.cons_inv hp)]
theorem sortedG_is {m d : List Gs} {d' : Array Gs} (hw : m.Pairwise (fun a b => zLt (nameG a) (nameG b) = true)) (hp : d.Perm m) (hq : PermIn 0 d.length d.toArray d') (hs : SortedIn aheadG 0 d.length d') : d'.toList = m := by
 obtain ⟨h1, _, h3⟩ := hq
 have hsz : d'.size = d.length := by simpa using h1
 have e1 : (d'.extract 0 d.length).toList = d'.toList := by
  rw [Array.toList_extract, ← hsz]; simp [List.take_of_length_le]
 have e2 : (d.toArray.extract 0 d.length).toList = d := by simp
 rw [e1, e2] at h3
 have hpm : d'.toList.Perm m := h3.trans hp
 refine gs_perm_eq ?_ hw hpm
 have hk : (d'.toList.map nameG).Nodup := by
  refine (hpm.map nameG).nodup_iff.2 ?_
  unfold List.Nodup
  rw [List.pairwise_map]
  exact hw.imp fun h e => by rw [e, zLt_irrefl] at h; cases h
 rw [List.pairwise_iff_getElem]
 intro i j hi hj hij
 have hj' : j < d'.size := by simpa using hj
 have hi' : i < d'.size := by simpa using hi
 have := hs i j (Nat.zero_le _) hij (by omega)
 rw [getElem!_pos d' j hj', getElem!_pos d' i hi', aheadG_lt] at this
 simp only [Array.getElem_toList]
 refine zLt_other this ?_
 intro e
 unfold List.Nodup at hk
 rw [List.pairwise_map, List.pairwise_iff_getElem] at hk
 exact hk i j hi hj hij (by simpa using e.symm)
def RowG (w : World) (g : Nat) (m : List Gs) : Prop := ∀ i x, m[i]? = some x → w.cell? ⟨g, i * 2, none⟩ = some (.string x.1.1) ∧ w.cell? ⟨g, i * 2 + 1, none⟩ = some (.int .i64 x.1.2)
theorem RowG.below {w w' : World} {g : Nat} {m : List Gs} (h : RowG w g m) (hb : Below w.heap.size w w') : RowG w' g m := fun i x hi => by
 obtain ⟨h1, h2⟩ := h i x hi
 exact ⟨(hb.cell (p := ⟨g, i * 2, none⟩) (cell_lt h1)).trans h1, (hb.cell (p := ⟨g, i * 2 + 1, none⟩) (cell_lt h2)).trans h2⟩
theorem rowG_holds {w : World} {g : Nat} {d : Array Gs} {m : List Gs} (hd : d.toList = m) (h : HoldsK encGd.enc 2 w g 0 d) : RowG w g m := by
 subst hd
 intro i x hi
 have hlt : i < d.size := by have := (List.getElem?_eq_some_iff.1 hi).1; simpa using this
 have hx : d[i]! = x := by
  rw [getElem!_pos d i hlt]
  obtain ⟨_, e⟩ := List.getElem?_eq_some_iff.1 hi
  simpa using e
 have key : ∀ c, c < 2 → w.cell? ⟨g, i * 2 + c, none⟩ = some ((encGd.enc x)[c]!) := by
  intro c hc
  have := (h (i * 2 + c) (by rw [size_flatK]; omega)).1
  rw [Nat.zero_add, get_flatK encGd.enc 2 d _ (by omega), show (i * 2 + c) / 2 = i by omega, show (i * 2 + c) % 2 = c by omega, hx] at this
  exact this
 exact ⟨key 0 (by decide), key 1 (by decide)⟩
theorem flatG_array (m : List Gs) : (flatK encGd.enc 2 m.toArray).toList = encGd.flat m := by
 apply List.ext_getElem?
 intro j
 by_cases hj : j < m.length * 2
 ·have hi : j / 2 < m.length := by omega
  have h1 : m[j / 2]? = some m[j / 2] := List.getElem?_eq_getElem hi
  have h2 := encGd.flat_get (j % 2) h1 (show j % 2 < 2 by omega)
  rw [show j / 2 * encGd.k + j % 2 = j by show j / 2 * 2 + j % 2 = j; omega] at h2
  rw [h2, Array.getElem?_toList, Array.getElem?_eq_getElem (by rw [size_flatK]; simpa using hj)]
  have h3 := get_flatK encGd.enc 2 m.toArray j (by simpa using hj)
  rw [getElem!_pos _ j (by rw [size_flatK]; simpa using hj)] at h3
  rw [h3, getElem!_pos m.toArray (j / 2) (by simpa using hi), List.getElem_toArray, getElem!_pos _ (j % 2) (by rw [encGd_len]; omega), List.getElem?_eq_getElem (by rw [encGd_len]; omega)]
 ·rw [List.getElem?_eq_none (l := encGd.flat m) (by rw [encGd.flat_len]; show m.length * 2 ≤ j; omega), List.getElem?_eq_none (by rw [Array.length_toList, size_flatK]; simpa using hj)]
theorem own_holdsG {w : World} {base g cap : Nat} {m : List Gs} (h : w.ownsRow base 24 2 (.slice (some ⟨g, 0, none⟩) m.length cap) m.length (encGd.flat m)) : HoldsK encGd.enc 2 w g 0 m.toArray := by
 intro j hj
 have hj' : j < m.length * 2 := by rw [size_flatK] at hj; simpa using hj
 refine ⟨?_, ?_⟩
 ·rw [Nat.zero_add]
  have := h.cells (g := g) rfl j ((flatK encGd.enc 2 m.toArray)[j]!) (by rw [← flatG_array, Array.getElem?_toList, Array.getElem?_eq_getElem hj, getElem!_pos _ j hj])
  rw [Go.WideShapes.add_plain] at this
  simpa using this
 ·rw [Nat.zero_add]; exact h.frozenAt j
theorem values_any (b : Nat) (w : World) : Calls Tryz.prog 57 #[.map (some b)] w fun e w' => e = .returned (.func (.func 97) #[] #[.pointer (some ⟨w.heap.size, 0, none⟩)]) ∧ w' = w.alloc (.cells #[.map (some b)] 90) := by
 go_enter Tryz.func57, Tryz.ntmps57
 go_wp2
 go_ret
 exact ⟨rfl, rfl⟩
theorem collectG (Bm b : Nat) (m : List Gs) (w : World) (h30 : m.length ≤ 1000) (hB : Bm < w.heap.size) (hc : w.cell? ⟨Bm, 0, none⟩ = some (.map (some b))) (hmap : MapL Tryz.prog 9 w b (m.map entG)) :
  Calls Tryz.prog 95 #[.func (.func 97) #[] #[.pointer (some ⟨Bm, 0, none⟩)]] w fun e w' => ∃ v xs, e = .returned v ∧ xs.Perm m ∧ w'.ownsRow w.heap.size 24 2 v xs.length (encGd.flat xs) ∧ (v = .slice none 0 0 ↔ xs = []) ∧ Below w.heap.size w w' := by
 have HA : Hid (Calls Tryz.prog 140 _ _ _) := appendSeqG Bm b m w h30 hB hc hmap
 clear hmap hc hB
 go_enter Tryz.func95, Tryz.ntmps95
 go_wp2_with (go_at_call 140; refine HA.out.mono ?_; rintro e w1 ⟨v, xs, rfl, h1, h2, h3, h4⟩)
 go_ret
 exact ⟨v, xs, rfl, h1, h2, h3, h4⟩
def GoodsAt (w : World) (B : Nat) (v : Value) (m : List Gs) : Prop := (v = .slice none 0 0 ∧ m = []) ∨ ∃ g cap, v = .slice (some ⟨g, 0, none⟩) m.length cap ∧ B ≤ g ∧ g < w.heap.size ∧ RowG w g m
theorem below_sortG {B : Nat} (w : World) (blk off n : Nat) (d : Array Gs) (os : Array Obj) (hB : B ≤ w.heap.size) (hb : B ≤ blk) : Below B w (sortWorldK encGd.enc 2 w blk off n d os) := by
 refine ⟨rfl, rfl, rfl, ?_, fun k hk => ?_⟩
 ·unfold sortWorldK; rw [size_grow, size_putRowK]; simp
 ·unfold sortWorldK
  rw [heap_grow_old _ _ (by rw [size_putRowK]; simp; omega)]
  show (w.heap.modify blk _)[k]? = _
  rw [Array.getElem?_modify, if_neg (by omega)]
theorem sortedFuncG (Bm b : Nat) (m : List Gs) (w : World) (h30 : m.length ≤ 30) (hs : m.Pairwise (fun a b => zLt (nameG a) (nameG b) = true)) (hB : Bm < w.heap.size) (hc : w.cell? ⟨Bm, 0, none⟩ = some (.map (some b))) (hmap : MapL Tryz.prog 9 w b (m.map entG)) :
  Calls Tryz.prog 56 #[.func (.func 97) #[] #[.pointer (some ⟨Bm, 0, none⟩)], .func (.func 58) #[] #[]] w fun e w' => ∃ v, e = .returned v ∧ GoodsAt w' w.heap.size v m ∧ Below w.heap.size w w' := by
 have HC : Hid (Calls Tryz.prog 95 _ _ _) := collectG Bm b m w (by omega) hB hc hmap
 have eg : ∀ args w, (callFunc 58 args).run Tryz.prog w = .ok (.enter 58 args) w := enters_of Tryz.func58 (by kernel_rfl) rfl
 have HN : Hid (∀ w1, Calls Tryz.prog 96 #[.slice none 0 0, .func (.func 58) #[] #[]] w1 _) := fun w1 => AnyF.slices_SortFunc_none Tryz.laysSortG none 0 (.func (.func 58) #[] #[]) w1
 have hso := fun g cap (d : List Gs) w1 (hd : d.length ≤ 30) (hH : HoldsK encGd.enc 2 w1 g 0 d.toArray) (hg : g < w1.heap.size) => AnyQ.slices_SortFunc Tryz.laysSortG 2 Tryz.isAgg24 Tryz.sizeOf24 encGd.enc encGd_len encGd.one cmpG swoG 58 #[] g 0 cap d.toArray w1 eg (cmpLaysG g 0 d.toArray.size w1) hH hg (by simp only [List.size_toArray]; omega)
 change ∀ g cap (d : List Gs) w1, _ → _ → _ → Calls Tryz.prog 96 _ _ _ at hso
 simp only [List.size_toArray] at hso
 have HO : Hid (∀ g cap (d : List Gs) w1, _ → _ → _ → Calls Tryz.prog 96 _ _ _) := hso
 have HS : Hid (m.Pairwise (fun a b => zLt (nameG a) (nameG b) = true)) := hs
 have H30 : Hid (m.length ≤ 30) := h30
 clear eg hso hmap hc hB hs h30
 go_enter Tryz.func56, Tryz.ntmps56
 go_wp2_with (first
  | (go_at_call 95; refine HC.out.mono ?_; rintro e w1 ⟨v, xs, rfl, h1, h2, h3, h4⟩))
 rcases h2.2 with ⟨hv, h0⟩ | ⟨g, cap, cur, hv, hgB, hgb, _⟩
 ·subst hv
  have hx := h3.1 rfl
  subst hx
  have hm : m = [] := List.nil_perm.1 h1
  have HM : Hid (m = []) := hm
  clear h1 h2 h3 h0 hm
  go_wp2_with (go_at_call 96; refine (HN.out _).mono ?_; rintro e w2 ⟨rfl, hw⟩; have hw' := hw.symm; subst hw')
  go_ret
  exact ⟨_, rfl, Or.inl ⟨rfl, HM.out⟩, h4⟩
 ·subst hv
  have hH := own_holdsG h2
  have hlt : g < w1.heap.size := (Array.getElem?_eq_some_iff.1 hgb).1
  have hl : xs.length ≤ 30 := by have := h1.length_eq; have := H30.out; omega
  have hln : xs.length = m.length := h1.length_eq
  have HCc : Hid (Calls Tryz.prog 96 _ _ _) := HO.out g cap xs w1 hl hH hlt
  have HH : Hid (HoldsK encGd.enc 2 w1 g 0 xs.toArray) := hH
  have HP : Hid (xs.Perm m) := h1
  have HG : Hid (w.heap.size ≤ g ∧ g < w1.heap.size ∧ xs.length = m.length) := ⟨hgB, hlt, hln⟩
  clear h1 h2 h3 hH hgB hgb hlt hl hln
  go_wp2_with (go_at_call 96; refine HCc.out.mono ?_; rintro e w2 ⟨rfl, d', q, os, hq, hs, rfl⟩)
  go_ret
  obtain ⟨k1, k2, k3⟩ := HG.out
  have hb9 := below_sortG (B := w.heap.size) w1 g 0 q d' os h4.size k1
  refine ⟨_, rfl, Or.inr ⟨g, cap, by rw [← k3]; rfl, k1, Nat.lt_of_lt_of_le k2 hb9.size, rowG_holds (sortedG_is HS.out HP.out hq hs) (SWK.holds ⟨q, os, rfl⟩ k2 HH.out hq.1)⟩, h4.trans hb9⟩
theorem bgoods_any (w : World) (B : Nat) (x : Bl) (b : Bk) (h : IsBk w B x b) :
  Calls Tryz.prog 15 #[.pointer (some ⟨x.p, 0, none⟩)] w fun e w' => ∃ v, e = .returned v ∧ GoodsAt w' w.heap.size v b.1 ∧ Below w.heap.size w w' := by
 have hW := whole_any w B x b h
 obtain ⟨ps, bs, h⟩ := h
 obtain ⟨p0, _⟩ := h.cells
 have hb1 : Below w.heap.size w (w.alloc (.cells #[.map (some x.g)] 90)) := (Below.refl _ w).alloc (Nat.le_refl _) _
 have n1 := heap_alloc_new w (.cells #[.map (some x.g)] 90)
 have HS : Hid (Calls Tryz.prog 56 _ _ _) := sortedFuncG w.heap.size x.g b.1 (w.alloc (.cells #[.map (some x.g)] 90)) h.ok.wf.gl h.ok.gs (by simp) (by rw [cell_of_heap n1]; rfl) (h.all hb1).G
 have HV : Hid (Calls Tryz.prog 57 _ _ _) := values_any x.g w
 have HW : Hid (Calls Tryz.prog 41 _ _ _) := hW
 have HB : Hid (Below _ _ _) := hb1
 clear h hW hb1 n1
 go_enter Tryz.func15, Tryz.ntmps15
 go_wp2_with (first
  | (go_at_call 41; refine HW.out.mono ?_; rintro e w1 ⟨rfl, hw⟩; have hw' := hw.symm; subst hw')
  | (go_at_call 57; refine HV.out.mono ?_; rintro e w2 ⟨rfl, rfl⟩)
  | (go_at_call 56; refine HS.out.mono ?_; rintro e w3 ⟨v, rfl, hg, hb⟩))
 go_ret
 refine ⟨v, rfl, ?_, HB.out.trans (hb.mono HB.out.size)⟩
 rcases hg with hg | ⟨g, cap, h1, h2, h3, h4⟩
 ·exact Or.inl hg
 ·exact Or.inr ⟨g, cap, h1, Nat.le_trans HB.out.size h2, h3, h4⟩
end Go.Proofs.YteomomeigbfeoaaGreatDoor
namespace Go.Proofs.YteomomeigbfeoaaGreatDoor
open Go.RowKit Go.Lib Go.Sort
theorem perm_map_consF {α : Type} {f : α → Ent} {t : List α} {x : Ent} {T : List Ent} (h : (t.map f).Perm (x :: T)) : ∃ l t', x = f l ∧ t.Perm (l :: t') ∧ T.Perm (t'.map f) := by
 obtain ⟨l, hl, e⟩ := List.mem_map.1 (h.mem_iff.2 (List.mem_cons_self ..))
 obtain ⟨s1, s2, rfl⟩ := List.append_of_mem hl
 have h1 : (s1 ++ l :: s2).Perm (l :: (s1 ++ s2)) := List.perm_middle
 refine ⟨l, s1 ++ s2, e.symm, h1, ?_⟩
 have h2 := (h1.map f).symm.trans h
 rw [List.map_cons, e] at h2
 exact h2.cons_inv.symm
section
variable {P : Program} {k : TypeId} {w : World} {ops : Array Oper} {rest : List Oper} {o : Oper} {a : Act} {Q : Exit → Act → World → Prop}
theorem wpQ_next (hg : o.guard = none) (it : Operand) (hop : o.op = Op.next it false) (b r : Nat) (L : List Ent) (t : List Lh) (hit : a.eval it = .pointer (some ⟨r, 0, none⟩)) (h : RangeL P k w b r L (t.map entL))
  (hDone : t = [] → wpList P ops Q rest (a.put o.dst (.tuple #[.bool false])) w)
  (hMore : ∀ (zi zc : ByteArray) (zu zk zh : Int) t' w', t.Perm (((zi, zc, zu, zk), zh) :: t') → RangeL P k w' b r L (t'.map entL) → w.grownBy w' (some r) → w'.heap.size = w.heap.size → (Instr.entry (.pointer (some ⟨r, 0, none⟩))).run P w' = .ok (.tuple #[.string zi, .agg #[.string zi, .string zc, .int .i64 zu, .int .i64 zk]]) w' →
   wpList P ops Q rest (a.put o.dst (.tuple #[.bool true, .string zi, .agg #[.string zi, .string zc, .int .i64 zu, .int .i64 zk]])) w') : wpList P ops Q (o :: rest) a w := by
 refine wpL_next hg it hop k b r L (t.map entL) hit h (fun e => hDone (by simpa using e)) fun x T' w' hp hrg hgr hsz hen => ?_
 obtain ⟨l, t', rfl, h1, h2⟩ := perm_map_consF hp
 obtain ⟨⟨zi, zc, zu, zk⟩, zh⟩ := l
 exact hMore zi zc zu zk zh t' w' h1 (hrg.perm h2) hgr hsz hen
end
theorem hasL_app (m : List Ln) (c : ByteArray) (d d' : List Lh) : hasL m c (d ++ d') = hasL m c d + hasL m c d' := by unfold hasL; simp
theorem hasL_perm {m : List Ln} {c : ByteArray} {d d' : List Lh} (h : d.Perm d') : hasL m c d = hasL m c d' := by
 unfold hasL
 have := h.map (fun x : Lh => if x.1.2.1 = c then ofL m x.1.1 else 0)
 generalize d.map _ = A at *
 generalize d'.map _ = A' at *
 induction this with
 | nil => rfl
 | cons x _ ih => simp [ih]
 | swap x y l => simp; omega
 | trans _ _ i1 i2 => exact i1.trans i2
theorem has_step {m : List Ln} (hw : Wf m) {L d t t' : List Lh} {l : Lh} (c : ByteArray) (h60 : L.length ≤ 60) (hp : (d ++ t).Perm L) (hp1 : t.Perm (l :: t')) :
  0 ≤ hasL m c d ∧ hasL m c d ≤ 65970697666560 ∧ 0 ≤ ofL m l.1.1 ∧ ofL m l.1.1 ≤ 1099511627776 ∧ ((d ++ [l]) ++ t').Perm L ∧ hasL m c (d ++ [l]) = hasL m c d + (if l.1.2.1 = c then ofL m l.1.1 else 0) := by
 have h1 : ((d ++ [l]) ++ t').Perm L := by
  rw [List.append_assoc]
  exact ((hp1.symm.append_left d)).trans hp
 have h2 := hasL_bound hw c d
 have h3 : d.length ≤ 60 := by have := hp.length_eq; simp at this; omega
 have h4 : (d.length : Int) * 1099511627776 ≤ 60 * 1099511627776 := Int.mul_le_mul_of_nonneg_right (by omega) (by decide)
 exact ⟨h2.1, by omega, ofL_nonneg (fun x hx => hw.pos x hx) _, hw.most _, h1, by rw [hasL_app]; unfold hasL; simp⟩
theorem bhas_any (c : ByteArray) (w : World) (B : Nat) (x : Bl) (b : Bk) (h : IsBk w B x b) :
  Calls Tryz.prog 17 #[.pointer (some ⟨x.p, 0, none⟩), .string c] w fun e w' => e = .returned (.int .i64 (hasL b.2.2 c b.2.1)) ∧ Below w.heap.size w w' := by
 have hW := whole_any w B x b h
 obtain ⟨ps, bs, h⟩ := h
 obtain ⟨_, _, p2, _, p4, _⟩ := h.cells
 have hm := h.L
 have hlt := h.lts
 have HS : Hid (∀ W, Below w.heap.size w W → IsStock W ps bs b.2.2) := fun W hb => (h.all hb).S
 have HP4 : Hid (∀ W, Below w.heap.size w W → W.cell? ⟨x.p, 4, none⟩ = some (.pointer (some ⟨ps, 0, none⟩))) := fun W hb => (h.all hb).cells.2.2.2.2.1
 have HWf : Hid (Wf b.2.2) := h.ok.wf.st
 have H60 : Hid (b.2.1.length ≤ 60) := h.ok.wf.ll
 have HO : Hid (∀ W z, Below w.heap.size w W → Calls Tryz.prog 22 #[.pointer (some ⟨ps, 0, none⟩), .string z] W fun r w' => r = .returned (.int .i64 (ofL b.2.2 z)) ∧ Below W.heap.size W w') := fun W z hb => of_any z W ps bs b.2.2 (h.all hb).S
 have HWh : Hid (Calls Tryz.prog 41 _ _ _) := hW
 clear h hW
 go_enter Tryz.func17, Tryz.ntmps17
 go_wp2_with (first
  | (go_at_call 41; refine HWh.out.mono ?_; rintro e w1 ⟨rfl, hw⟩; have hw' := hw.symm; subst hw')
  | (at_range; refine wpL_range rfl _ 93 rfl 9 26 Tryz.underlying93 x.l (b.2.1.map entL) rfl hm ?_; intro w0 hrg0 hg0 hs0))
 go_frame
 have hb0 : Below w.heap.size w w0 := ⟨hg0.os, hg0.tape, hg0.output, hg0.size, fun k hk => hg0.block k hk (by simp)⟩
 have HL : Hid (x.l < w.heap.size) := hlt.2.2.2.1
 clear hg0 hs0 hm hlt
 go_loopw [6] (fun s wr => ∃ d t : List Lh, (d ++ t).Perm b.2.1 ∧ s = .int .i64 (hasL b.2.2 c d) ∧ RangeL Tryz.prog 9 wr x.l w.heap.size (b.2.1.map entL) (t.map entL) ∧ Below w.heap.size w wr) (fun _ wr => wr.rangeLeft x.l w.heap.size)
 case atStart => exact ⟨[], b.2.1, List.Perm.refl _, rfl, hrg0, hb0⟩
 case round =>
  obtain ⟨d, t, hp, rfl, hrg, hb⟩ := hrel
  go_wp2_with (at_next; refine wpQ_next rfl _ rfl x.l w.heap.size _ t rfl hrg ?_ ?_)
  ·intro ht
   subst ht
   have e : hasL b.2.2 c d = hasL b.2.2 c b.2.1 := by rw [← hasL_perm hp]; simp
   go_wp2
   go_ret
   exact ⟨by rw [← e]; rfl, hb⟩
  ·intro zi zc zu zk zh t' w1 hp1 hrg1 hg1 hs1 hen
   have hb1 := grown_below hb (Nat.le_refl _) hg1
   obtain ⟨q1, q2, q3, q4, q5, q6⟩ := has_step HWf.out c H60.out hp hp1
   have HP : Hid (((d ++ [((zi, zc, zu, zk), zh)]) ++ t').Perm b.2.1) := q5
   have HQ : Hid (hasL b.2.2 c (d ++ [((zi, zc, zu, zk), zh)]) = _) := q6
   have HM : Hid (wr.rangeLeft x.l w.heap.size = w1.rangeLeft x.l w.heap.size + 1) := by
    show _ = _
    rw [hrg.left_eq, hrg1.left_eq]
    have := hp1.length_eq
    simpa using this
   have hbN := hb1.alloc hb1.size (.cells #[.string zi, .string zc, .int .i64 zu, .int .i64 zk] 26)
   have hbM : Below w1.heap.size w1 (w1.alloc (.cells #[.string zi, .string zc, .int .i64 zu, .int .i64 zk] 26)) := (Below.refl _ w1).alloc (Nat.le_refl _) _
   have nN := heap_alloc_new w1 (.cells #[.string zi, .string zc, .int .i64 zu, .int .i64 zk] 26)
   obtain ⟨W2, hW2⟩ : ∃ W2, w1.alloc (.cells #[.string zi, .string zc, .int .i64 zu, .int .i64 zk] 26) = W2 := ⟨_, rfl⟩
   rw [hW2] at hbN nN hbM
   have hrg2 : RangeL Tryz.prog 9 W2 x.l w.heap.size (b.2.1.map entL) (t'.map entL) := hrg1.below hbM hrg1.map.lt hrg1.lt
   have hl2 : W2.rangeLeft x.l w.heap.size = w1.rangeLeft x.l w.heap.size := hrg2.left_eq.trans hrg1.left_eq.symm
   have c1 : W2.cell? ⟨w1.heap.size, 1, none⟩ = some (.string zc) := by rw [cell_of_heap nN]; rfl
   have c4 := HP4.out _ hbN
   have HR2 : Hid (RangeL _ _ _ _ _ _ _) := hrg2
   have HB2 : Hid (Below _ _ _) := hbN
   have HL2 : Hid (W2.rangeLeft x.l w.heap.size = w1.rangeLeft x.l w.heap.size) := hl2
   clear q5 q6 hp hp1 hrg hrg1 hg1 hb hbN hbM nN hrg2 hl2 hs1
   simp only at q3 q4
   by_cases hz : zc = c
   ·subst hz
    go_wp2_with (go_at_call 22; refine (HO.out _ _ HB2.out).mono ?_; rintro r w3 ⟨rfl, hb3⟩)
    go_roundw
    case rel => exact ⟨_, t', HP.out, by rw [HQ.out]; simp, HR2.out.below hb3 HR2.out.map.lt HR2.out.lt, HB2.out.trans (hb3.mono HB2.out.size)⟩
    case measure => show World.rangeLeft _ _ _ < _; rw [HM.out, (HR2.out.below hb3 HR2.out.map.lt HR2.out.lt).left_eq, ← HR2.out.left_eq, HL2.out]; exact Nat.lt_succ_self _
   ·have e3 := same_eq zc c
    rw [decide_eq_false hz] at e3
    go_wp2
    go_roundw
    case rel => exact ⟨_, t', HP.out, by rw [HQ.out, if_neg hz, Int.add_zero], HR2.out, HB2.out⟩
    case measure => show World.rangeLeft _ _ _ < _; rw [HM.out, HL2.out]; exact Nat.lt_succ_self _
end Go.Proofs.YteomomeigbfeoaaGreatDoor
namespace Go.Proofs.YteomomeigbfeoaaGreatDoor
open Go.RowKit Go.Lib Go.Sort Go.Shelf
def encLq : Enc Lo where
 k := 4
 enc l := encL l
 len _ := rfl
 one l v hv := encL_one l v hv
def lotsOf (m : List Lh) (c : ByteArray) : List Lo := (m.filter fun l => decide (l.1.2.1 = c)).map (·.1)
theorem lotsOf_app (m m' : List Lh) (c : ByteArray) : lotsOf (m ++ m') c = lotsOf m c ++ lotsOf m' c := by unfold lotsOf; simp
theorem lotsOf_hit {l : Lh} {c : ByteArray} (h : l.1.2.1 = c) : lotsOf [l] c = [l.1] := by unfold lotsOf; simp [h]
theorem lotsOf_miss {l : Lh} {c : ByteArray} (h : l.1.2.1 ≠ c) : lotsOf [l] c = [] := by unfold lotsOf; simp [h]
theorem lotsOf_perm {m m' : List Lh} (h : m.Perm m') (c : ByteArray) : (lotsOf m c).Perm (lotsOf m' c) := (h.filter _).map _
theorem lotsOf_le (m : List Lh) (c : ByteArray) : (lotsOf m c).length ≤ m.length := by unfold lotsOf; simpa using List.length_filter_le _ _
theorem flatLo_array (m : List Lo) : (flatK encL 4 m.toArray).toList = encLq.flat m := by
 apply List.ext_getElem?
 intro j
 by_cases hj : j < m.length * 4
 ·have hi : j / 4 < m.length := by omega
  have h1 : m[j / 4]? = some m[j / 4] := List.getElem?_eq_getElem hi
  have h2 := encLq.flat_get (j % 4) h1 (show j % 4 < 4 by omega)
  rw [show j / 4 * encLq.k + j % 4 = j by show j / 4 * 4 + j % 4 = j; omega] at h2
  rw [h2, Array.getElem?_toList, Array.getElem?_eq_getElem (by rw [size_flatK]; simpa using hj)]
  have h3 := get_flatK encL 4 m.toArray j (by simpa using hj)
  rw [getElem!_pos _ j (by rw [size_flatK]; simpa using hj)] at h3
  rw [h3, getElem!_pos m.toArray (j / 4) (by simpa using hi), List.getElem_toArray, getElem!_pos _ (j % 4) (by rw [encL_len]; omega), List.getElem?_eq_getElem (by show _ < (encL _).length; rw [encL_len]; omega)]
  rfl
 ·rw [List.getElem?_eq_none (l := encLq.flat m) (by rw [encLq.flat_len]; show m.length * 4 ≤ j; omega), List.getElem?_eq_none (by rw [Array.length_toList, size_flatK]; simpa using hj)]
theorem own_rowLo {w : World} {base g cap : Nat} {m : List Lo} (h : w.ownsRow base 26 4 (.slice (some ⟨g, 0, none⟩) m.length cap) m.length (encLq.flat m)) : RowL w g 0 m.toArray := by
 intro j hj
 have hj2 : j < m.length * 4 := by simpa using hj
 have hj3 : j < (flatK encL 4 m.toArray).size := by rw [size_flatK]; exact hj
 have := h.cells (g := g) rfl j ((flatK encL 4 m.toArray)[j]!) (by rw [← flatLo_array, Array.getElem?_toList, Array.getElem?_eq_getElem hj3, getElem!_pos _ j hj3])
 rw [Go.WideShapes.add_plain] at this
 simpa using this
def LotsAt (w : World) (B : Nat) (v : Value) (d : Array Lo) : Prop := (v = .slice none 0 0 ∧ d = #[]) ∨ ∃ g cap, v = .slice (some ⟨g, 0, none⟩) d.size cap ∧ B ≤ g ∧ RowL w g 0 d
theorem LotsAt.below {w w' : World} {B : Nat} {v : Value} {d : Array Lo} (h : LotsAt w B v d) (hb : Below w.heap.size w w') : LotsAt w' B v d := by
 rcases h with h | ⟨g, cap, h1, h2, h3⟩
 ·exact Or.inl h
 ·exact Or.inr ⟨g, cap, h1, h2, h3.below hb⟩
theorem blots_any (c : ByteArray) (w : World) (B : Nat) (x : Bl) (b : Bk) (h : IsBk w B x b) (h59 : b.2.1.length ≤ 59) :
  Calls Tryz.prog 20 #[.pointer (some ⟨x.p, 0, none⟩), .string c] w fun e w' => ∃ v d, e = .returned v ∧ LotsAt w' w.heap.size v d ∧ d.toList.Perm (lotsOf b.2.1 c) ∧ SortedIn soonL 0 d.size d ∧ Below w.heap.size w w' := by
 obtain ⟨i0, hi, hz0, hz1, hz2⟩ := info_parts Tryz.infoLo
 have hW := whole_any w B x b h
 obtain ⟨ps, bs, h⟩ := h
 obtain ⟨_, _, p2, _, _, _⟩ := h.cells
 have hm := h.L
 have hlt := h.lts
 have HWh : Hid (Calls Tryz.prog 41 _ _ _) := hW
 have H59 : Hid (b.2.1.length ≤ 59) := h59
 clear h hW h59
 go_enter Tryz.func20, Tryz.ntmps20
 go_wp2_with (first
  | (go_at_call 41; refine HWh.out.mono ?_; rintro e w1 ⟨rfl, hw⟩; have hw' := hw.symm; subst hw')
  | (at_range; refine wpL_range rfl _ 93 rfl 9 26 Tryz.underlying93 x.l (b.2.1.map entL) rfl hm ?_; intro w0 hrg0 hg0 hs0))
 go_frame
 have hb0 : Below w.heap.size w w0 := ⟨hg0.os, hg0.tape, hg0.output, hg0.size, fun k hk => hg0.block k hk (by simp)⟩
 have hz00 : w.heap.size < w0.heap.size := by omega
 have HL : Hid (x.l < w.heap.size) := hlt.2.2.2.1
 clear hg0 hs0 hm hlt
 go_loopw [5] (fun s wr => ∃ d t : List Lh, (d ++ t).Perm b.2.1 ∧ wr.ownsRow (w.heap.size + 1) 26 4 s (lotsOf d c).length (encLq.flat (lotsOf d c)) ∧ RangeL Tryz.prog 9 wr x.l w.heap.size (b.2.1.map entL) (t.map entL) ∧ Below w.heap.size w wr) (fun _ wr => wr.rangeLeft x.l w.heap.size)
 case atStart => exact ⟨[], b.2.1, List.Perm.refl _, World.ownsRow_nil _ _ _ _, hrg0, hb0⟩
 case round =>
  obtain ⟨d, t, hp, hown, hrg, hb⟩ := hrel
  have hlt9 := hrg.lt
  have hdl : (lotsOf d c).length ≤ 59 := by have h1 := lotsOf_le d c; have h2 := hp.length_eq; have := H59.out; simp at h2; omega
  go_wp2_with (at_next; refine wpQ_next rfl _ rfl x.l w.heap.size _ t rfl hrg ?_ ?_)
  ·intro ht
   subst ht
   have hpd : d.Perm b.2.1 := by simpa using hp
   have HP : Hid ((lotsOf d c).Perm (lotsOf b.2.1 c)) := lotsOf_perm hpd c
   rcases hown.2 with ⟨hv, h0⟩ | ⟨g, cap, cur, hv, hgB, hgb, _⟩
   ·subst hv
    have hx : lotsOf d c = [] := by
     have := h0
     rcases hl : lotsOf d c with _ | ⟨a, r⟩
     ·rfl
     ·rw [hl] at this; simp at this
    have HX : Hid (lotsOf d c = []) := hx
    clear hown hrg hp hpd h0 hx
    go_wp2_with (go_at_call 61; refine (sorted_none _).mono ?_; rintro r w3 ⟨rfl, hw⟩; have hw' := hw.symm; subst hw')
    go_ret
    exact ⟨_, #[], rfl, Or.inl ⟨rfl, rfl⟩, by have := HP.out; rw [HX.out] at this; exact this, fun i j _ h1 h2 => absurd h2 (by simp), hb⟩
   ·subst hv
    have hR := own_rowLo hown
    have hsz : (lotsOf d c).toArray.size ≤ 59 := by simpa using hdl
    have hC := sorted_some g 0 cap (lotsOf d c).toArray wr hsz hR
    simp only [List.size_toArray] at hC
    have HC : Hid (Calls Tryz.prog 61 _ _ _) := hC
    clear hown hrg hp hpd hR hC hgB hgb
    go_wp2_with (go_at_call 61; refine HC.out.mono ?_; rintro r w3 ⟨g', cap', d', rfl, hg', hst, hH, hb3⟩)
    go_ret
    obtain ⟨⟨q1, q2, q3⟩, hso, _⟩ := hst
    have hsz' : d'.size = (lotsOf d c).length := by simpa using q1
    have e1 : (d'.extract 0 (lotsOf d c).length).toList = d'.toList := by rw [Array.toList_extract, ← hsz']; simp [List.take_of_length_le]
    have e2 : ((lotsOf d c).toArray.extract 0 (lotsOf d c).length).toList = lotsOf d c := by simp
    rw [e1, e2] at q3
    exact ⟨_, d', rfl, Or.inr ⟨g', cap', by rw [hsz']; rfl, Nat.le_trans hb.size hg', RowL.of_holds hH⟩, q3.trans HP.out, by rw [hsz']; exact hso, hb.trans (hb3.mono hb.size)⟩
  ·intro zi zc zu zk zh t' w1 hp1 hrg1 hg1 hs1 hen
   have hb1 := grown_below hb (Nat.le_refl _) hg1
   have hown1 := hown.kept hg1 (Or.inr (fun e9 => by have := (hown.lt _ e9).1; omega))
   have HP : Hid (((d ++ [((zi, zc, zu, zk), zh)]) ++ t').Perm b.2.1) := by
    show _
    rw [List.append_assoc]
    exact ((hp1.symm.append_left d)).trans hp
   have HM : Hid (wr.rangeLeft x.l w.heap.size = w1.rangeLeft x.l w.heap.size + 1) := by
    show _ = _
    rw [hrg.left_eq, hrg1.left_eq]
    have := hp1.length_eq
    simpa using this
   have hbN := hb1.alloc hb1.size (.cells #[.string zi, .string zc, .int .i64 zu, .int .i64 zk] 26)
   have hbM : Below w1.heap.size w1 (w1.alloc (.cells #[.string zi, .string zc, .int .i64 zu, .int .i64 zk] 26)) := (Below.refl _ w1).alloc (Nat.le_refl _) _
   have nN := heap_alloc_new w1 (.cells #[.string zi, .string zc, .int .i64 zu, .int .i64 zk] 26)
   have hown2 := hown1.alloc (.cells #[.string zi, .string zc, .int .i64 zu, .int .i64 zk] 26)
   obtain ⟨W2, hW2⟩ : ∃ W2, w1.alloc (.cells #[.string zi, .string zc, .int .i64 zu, .int .i64 zk] 26) = W2 := ⟨_, rfl⟩
   rw [hW2] at hbN nN hbM hown2
   have hrg2 : RangeL Tryz.prog 9 W2 x.l w.heap.size (b.2.1.map entL) (t'.map entL) := hrg1.below hbM hrg1.map.lt hrg1.lt
   have hl2 : W2.rangeLeft x.l w.heap.size = w1.rangeLeft x.l w.heap.size := hrg2.left_eq.trans hrg1.left_eq.symm
   have c0 : W2.cell? ⟨w1.heap.size, 0, none⟩ = some (.string zi) := by rw [cell_of_heap nN]; rfl
   have c1 : W2.cell? ⟨w1.heap.size, 1, none⟩ = some (.string zc) := by rw [cell_of_heap nN]; rfl
   have c2 : W2.cell? ⟨w1.heap.size, 2, none⟩ = some (.int .i64 zu) := by rw [cell_of_heap nN]; rfl
   have c3 : W2.cell? ⟨w1.heap.size, 3, none⟩ = some (.int .i64 zk) := by rw [cell_of_heap nN]; rfl
   have HR2 : Hid (RangeL _ _ _ _ _ _ _) := hrg2
   have HB2 : Hid (Below _ _ _) := hbN
   have HL2 : Hid (W2.rangeLeft x.l w.heap.size = w1.rangeLeft x.l w.heap.size) := hl2
   have HO2 : Hid (W2.ownsRow (w.heap.size + 1) 26 4 _ (lotsOf d c).length (encLq.flat (lotsOf d c))) := hown2
   have hlW : w.heap.size + 1 ≤ W2.heap.size := by have := hrg2.lt; omega
   clear hp hp1 hrg hrg1 hg1 hb hbN hbM nN hrg2 hl2 hs1 hown hown1 hown2
   by_cases hz : zc = c
   ·subst hz
    go_wp2_with (at_builtin; refine wpList_append_own _ rfl _ _ 52 rfl (w.heap.size + 1) 26 i0 (.agg #[.string ⟨#[]⟩, .string ⟨#[]⟩, .int .i64 0, .int .i64 0]) 4 48 Tryz.underlying52 hi hz0 hz1 hz2 rfl (by decide) _ (lotsOf d zc).length (encLq.flat (lotsOf d zc)) rfl (HO2.out.alloc _) ⟨W2.heap.size, 0, none⟩ 1 1 (encL (zi, zc, zu, zk)) rfl rfl (World.news_of_block (heap_alloc_new W2 _)) (encL_one _) (by unfold maxLen; omega) (by omega) (by simp; omega) ?_; intro v' w4 hown4 hgr4 _)
    have hR4 := (HR2.out.kept (World.grownBy_alloc W2 _ none) (by simp) (by simp)).kept hgr4 (fun e9 => by have := (HO2.out.lt _ e9.symm).1; have := HL.out; omega) (fun e9 => by have := (HO2.out.lt _ e9.symm).1; omega)
    refine ⟨⟨d ++ [((zi, zc, zu, zk), zh)], t', HP.out, ?_, hR4, (HB2.out.alloc HB2.out.size _).grown hgr4 (by simp; omega) (fun k hk => by have := (HO2.out.lt k hk).1; omega)⟩, ?_⟩
    ·rw [lotsOf_app, lotsOf_hit rfl, encLq.flat_append, encLq.flat_one, List.length_append]
     exact hown4
    ·rw [HM.out, hR4.left_eq, ← HL2.out, HR2.out.left_eq]; exact Nat.lt_succ_self _
   ·have e3 := same_eq zc c
    rw [decide_eq_false hz] at e3
    go_wp2
    go_roundw
    case rel => exact ⟨_, t', HP.out, by rw [lotsOf_app, lotsOf_miss hz, List.append_nil]; exact HO2.out, HR2.out, HB2.out⟩
    case measure => show World.rangeLeft _ _ _ < _; rw [HM.out, HL2.out]; exact Nat.lt_succ_self _
end Go.Proofs.YteomomeigbfeoaaGreatDoor
namespace Go.Proofs.YteomomeigbfeoaaGreatDoor
open Go.RowKit Go.Lib Go.Sort
theorem IsBk.mono {w : World} {B B' : Nat} {x : Bl} {b : Bk} (h : IsBk w B x b) (hB : B' ≤ B) : IsBk w B' x b := by
 obtain ⟨ps, bs, h⟩ := h
 exact ⟨ps, bs, { h with bp := Nat.le_trans hB h.bp, bg := Nat.le_trans hB h.bg, bs := Nat.le_trans hB h.bs }⟩
theorem IsBk.sizeG {w : World} {B : Nat} {x : Bl} {b : Bk} (h : IsBk w B x b) {g : Gs} (hg : g ∈ b.1) : g.1.1.size ≤ maxLen := by
 obtain ⟨ps, bs, h⟩ := h
 obtain ⟨kl, hk⟩ := h.G.keys _ (List.mem_map.2 ⟨g, hg, rfl⟩)
 obtain ⟨s, e, _, hs⟩ := WideMaps.string_of_keyOf Tryz.underlying9 hk
 cases e
 exact hs
theorem IsBk.sizeL {w : World} {B : Nat} {x : Bl} {b : Bk} (h : IsBk w B x b) {l : Lh} (hl : l ∈ b.2.1) : l.1.1.size ≤ maxLen := by
 obtain ⟨ps, bs, h⟩ := h
 obtain ⟨kl, hk⟩ := h.L.keys _ (List.mem_map.2 ⟨l, hl, rfl⟩)
 obtain ⟨s, e, _, hs⟩ := WideMaps.string_of_keyOf Tryz.underlying9 hk
 cases e
 exact hs
theorem GoodsAt.shape2 {w : World} {B : Nat} {v : Value} {m : List Gs} (h : GoodsAt w B v m) : ∃ pg cap, v = .slice pg m.length cap ∧ ∀ i x, m[i]? = some x → ∃ g, pg = some ⟨g, 0, none⟩ ∧ g < w.heap.size ∧ w.cell? ⟨g, i * 2, none⟩ = some (.string x.1.1) := by
 rcases h with ⟨h1, h2⟩ | ⟨g, cap, h1, h2, h3, h4⟩
 ·refine ⟨none, 0, by rw [h1, h2]; rfl, fun i x hi => ?_⟩
  rw [h2] at hi
  simp at hi
 ·exact ⟨_, cap, h1, fun i x hi => ⟨g, rfl, h3, (h4 i x hi).1⟩⟩
def LotC (w : World) (g o : Nat) (l : Lo) : Prop := w.cell? ⟨g, o, none⟩ = some (.string l.1) ∧ w.cell? ⟨g, o + 1, none⟩ = some (.string l.2.1) ∧ w.cell? ⟨g, o + 2, none⟩ = some (.int .i64 l.2.2.1) ∧ w.cell? ⟨g, o + 3, none⟩ = some (.int .i64 l.2.2.2)
theorem LotC.below {w w' : World} {g o : Nat} {l : Lo} (h : LotC w g o l) (hb : Below w.heap.size w w') : LotC w' g o l := by
 obtain ⟨h0, h1, h2, h3⟩ := h
 exact ⟨(hb.cell (p := ⟨g, o, none⟩) (cell_lt h0)).trans h0, (hb.cell (p := ⟨g, o + 1, none⟩) (cell_lt h1)).trans h1, (hb.cell (p := ⟨g, o + 2, none⟩) (cell_lt h2)).trans h2, (hb.cell (p := ⟨g, o + 3, none⟩) (cell_lt h3)).trans h3⟩
theorem LotsAt.shape4 {w : World} {B : Nat} {v : Value} {d : Array Lo} (h : LotsAt w B v d) : ∃ pl cap, v = .slice pl d.size cap ∧ ∀ j, j < d.size → ∃ g, pl = some ⟨g, 0, none⟩ ∧ LotC w g (j * 4) d[j]! := by
 rcases h with ⟨h1, h2⟩ | ⟨g, cap, h1, h2, h3⟩
 ·refine ⟨none, 0, by rw [h1, h2]; rfl, fun j hj => ?_⟩
  rw [h2] at hj
  simp at hj
 ·refine ⟨_, cap, h1, fun j hj => ⟨g, rfl, ?_⟩⟩
  have := h3.cells hj
  simp only [Nat.zero_add] at this
  exact this
theorem lotsOf_mem {m : List Lh} {c : ByteArray} {x : Lo} (h : x ∈ lotsOf m c) : ∃ l ∈ m, l.1 = x := by
 unfold lotsOf at h
 obtain ⟨l, hl, e⟩ := List.mem_map.1 h
 exact ⟨l, (List.mem_filter.1 hl).1, e⟩
theorem lotsOf_ids {b : Bk} (hok : BkOk b) (c : ByteArray) : ((lotsOf b.2.1 c).map fun x : Lo => x.1).Nodup := by
 unfold lotsOf
 rw [List.map_map]
 have h1 : (b.2.1.filter fun l => decide (l.1.2.1 = c)).Pairwise (fun x y => zLt (nameL x) (nameL y) = true) := hok.ls.sublist (List.filter_sublist ..)
 unfold List.Nodup
 rw [List.pairwise_map]
 exact h1.imp fun {x y} h e => by
  have e' : nameL x = nameL y := e
  rw [e', zLt_irrefl] at h
  cases h
theorem arr_get {d : Array Lo} {j : Nat} (hj : j < d.size) : d.toList[j]? = some d[j]! := by
 rw [Array.getElem?_toList, Array.getElem?_eq_getElem hj, getElem!_pos d j hj]
theorem rel_perm_eq {α : Type} {r : α → α → Bool} (irr : ∀ a, r a a = false) (tr : ∀ a b c, r a b = true → r b c = true → r a c = true) : ∀ {m m' : List α}, m.Pairwise (fun a b => r a b = true) → m'.Pairwise (fun a b => r a b = true) → m.Perm m' → m = m'
 | [], m', _, _, hp => (List.nil_perm.1 hp).symm
 | a :: m, [], _, _, hp => by have := hp.length_eq; simp at this
 | a :: m, b :: m', h, h', hp => by
  obtain ⟨h1, h2⟩ := List.pairwise_cons.1 h
  obtain ⟨h3, h4⟩ := List.pairwise_cons.1 h'
  have e : a = b := by
   rcases List.mem_cons.1 (hp.mem_iff.1 (List.mem_cons_self ..)) with e | e
   ·exact e
   ·rcases List.mem_cons.1 (hp.mem_iff.2 (List.mem_cons_self ..)) with e' | e'
    ·exact e'.symm
    ·have := tr _ _ _ (h3 a e) (h1 b e')
     rw [irr] at this
     cases this
  subst e
  rw [rel_perm_eq irr tr h2 h4 (List.Perm.cons_inv hp)]
theorem soon_or {x y : Lo} (h : soonL y x = false) (hne : y.1 ≠ x.1) : soonL x y = true := by
 rw [soonL_iff]
 rw [soonL_no] at h
 unfold soonW at *
 rcases Int.lt_trichotomy x.2.2.1 y.2.2.1 with k | k | k
 ·exact Or.inl k
 ·refine Or.inr ⟨k, ?_⟩
  rcases cmpZ_cases x.1 y.1 with ⟨q1, q2, q3, q4⟩ | ⟨q1, q2, q3, q4⟩ | ⟨q1, q2, q3, q4⟩
  ·exact q1
  ·exact absurd (Or.inr ⟨k.symm, q2⟩) h
  ·exact absurd q3.symm hne
 ·exact absurd (Or.inl k) h
theorem insS_cons (y : Lo) (m : List Lo) (x : Lo) : insS (y :: m) x = if soonL y x = true then y :: insS m x else x :: y :: m := by
 unfold insS
 cases h : soonL y x with
 | true =>
  have e : soonC x (y :: m) = soonC x m + 1 := by unfold soonC; rw [if_pos h]; cases m <;> rfl
  rw [e]; simp
 | false =>
  have e : soonC x (y :: m) = 0 := by unfold soonC; rw [if_neg (by rw [h]; decide)]
  rw [e]; simp
theorem insS_perm (m : List Lo) (x : Lo) : (insS m x).Perm (x :: m) := by
 unfold insS
 refine List.perm_middle.trans ?_
 rw [List.take_append_drop]
theorem insS_sorted : ∀ {m : List Lo} {x : Lo}, m.Pairwise (fun a b => soonL a b = true) → (∀ y ∈ m, y.1 ≠ x.1) → (insS m x).Pairwise (fun a b => soonL a b = true)
 | [], x, _, _ => by rw [insS_nil]; exact List.pairwise_singleton _ _
 | y :: m, x, hs, hn => by
  rw [insS_cons]
  obtain ⟨h1, h2⟩ := List.pairwise_cons.1 hs
  cases h : soonL y x with
  | true =>
   rw [if_pos rfl]
   refine List.pairwise_cons.2 ⟨fun z hz => ?_, insS_sorted h2 fun z hz => hn z (List.mem_cons_of_mem _ hz)⟩
   rcases List.mem_cons.1 ((insS_perm m x).mem_iff.1 hz) with rfl | hz
   ·exact h
   ·exact h1 z hz
  | false =>
   rw [if_neg (by decide)]
   have hxy : soonL x y = true := soon_or h (hn y (List.mem_cons_self ..))
   refine List.pairwise_cons.2 ⟨fun z hz => ?_, hs⟩
   rcases List.mem_cons.1 hz with rfl | hz
   ·exact hxy
   ·exact swoL.trans _ _ _ hxy (h1 z hz)
theorem lotsL_take {b : Bk} (hok : BkOk b) (c : ByteArray) : ∀ k, k ≤ b.2.1.length → (lotsL c (b.2.1.take k)).Perm (lotsOf (b.2.1.take k) c) ∧ (lotsL c (b.2.1.take k)).Pairwise (fun a b => soonL a b = true)
 | 0, _ => ⟨List.Perm.refl _, List.Pairwise.nil⟩
 | k + 1, h => by
  obtain ⟨i1, i2⟩ := lotsL_take hok c k (by omega)
  have hx := List.getElem?_eq_getElem (l := b.2.1) (i := k) (by omega)
  generalize b.2.1[k]'(by omega) = x at hx
  rw [lotsL_succ hx]
  have e : b.2.1.take (k + 1) = b.2.1.take k ++ [x] := by rw [List.take_add_one, hx]; rfl
  rw [e, lotsOf_app]
  by_cases hc : x.1.2.1 = c
  ·rw [if_pos hc, lotsOf_hit hc]
   refine ⟨(insS_perm _ _).trans ((i1.cons _).trans (List.perm_append_singleton _ _).symm), insS_sorted i2 fun y hy e9 => ?_⟩
   obtain ⟨l, hl, rfl⟩ := lotsOf_mem (i1.mem_iff.1 hy)
   have hp : (b.2.1.take (k + 1)).Pairwise (fun x y => zLt (nameL x) (nameL y) = true) := hok.ls.sublist (List.take_sublist ..)
   rw [e] at hp
   have h9 := (List.pairwise_append.1 hp).2.2 l hl x (by simp)
   have e8 : nameL l = nameL x := e9
   rw [e8, zLt_irrefl] at h9
   cases h9
  ·rw [if_neg hc, lotsOf_miss hc, List.append_nil]
   exact ⟨i1, i2⟩
theorem lots_eq {b : Bk} (hok : BkOk b) {c : ByteArray} {d : Array Lo} (hpm : d.toList.Perm (lotsOf b.2.1 c)) (hs : SortedIn soonL 0 d.size d) : d.toList = lotsL c b.2.1 := by
 obtain ⟨h1, h2⟩ := lotsL_take hok c b.2.1.length (Nat.le_refl _)
 rw [List.take_length] at h1 h2
 refine rel_perm_eq swoL.irrefl swoL.trans ?_ h2 (hpm.trans h1.symm)
 have hn : (d.toList.map fun x : Lo => x.1).Nodup := (hpm.map _).nodup_iff.2 (lotsOf_ids hok c)
 rw [List.pairwise_iff_getElem]
 intro i j hi hj hij
 have hj' : j < d.size := by simpa using hj
 have h3 := hs i j (Nat.zero_le _) hij hj'
 unfold List.Nodup at hn
 rw [List.pairwise_map] at hn
 have h4 := List.pairwise_iff_getElem.1 hn i j hi hj hij
 rw [getElem!_pos d i (by omega), getElem!_pos d j hj'] at h3
 simp only [Array.getElem_toList] at h4 ⊢
 exact soon_or h3 fun e => h4 e.symm
theorem Enc.Row.shape2 {α : Type} {E : Enc α} {w : World} {B : Nat} {T : TypeId} {v : Value} {m : List α} (h : E.Row w B T v m) : ∃ ao c, v = .slice ao m.length c ∧ ∀ i x, m[i]? = some x → ∃ g, ao = some ⟨g, 0, none⟩ ∧ g < w.heap.size ∧ ∀ k, k < E.k → w.cell? ⟨g, i * E.k + k, none⟩ = (E.enc x)[k]? := by
 rcases h.forms with ⟨rfl, rfl⟩ | ⟨g, cap, rfl, -, hg, -, -, hc⟩
 ·exact ⟨none, 0, rfl, fun i x hi => by simp at hi⟩
 ·exact ⟨_, cap, rfl, fun i x hi => ⟨g, rfl, hg, fun k hk => hc i x k hi hk⟩⟩
theorem GoodsAt.shapeB {w : World} {B : Nat} {v : Value} {m : List Gs} (h : GoodsAt w B v m) : ∃ pg cap, v = .slice pg m.length cap ∧ ∀ i x, m[i]? = some x → ∃ g, pg = some ⟨g, 0, none⟩ ∧ g < w.heap.size ∧ w.cell? ⟨g, i * 2, none⟩ = some (.string x.1.1) ∧ w.cell? ⟨g, i * 2 + 1, none⟩ = some (.int .i64 x.1.2) := by
 rcases h with ⟨h1, h2⟩ | ⟨g, cap, h1, h2, h3, h4⟩
 ·refine ⟨none, 0, by rw [h1, h2]; rfl, fun i x hi => ?_⟩
  rw [h2] at hi
  simp at hi
 ·exact ⟨_, cap, h1, fun i x hi => ⟨g, rfl, h3, h4 i x hi⟩⟩
theorem flat_flatN (m : List Ln) : encLn.flat m = flatN m := rfl
theorem lot_there {b : Bk} (hok : BkOk b) {l : Lh} (hl : l ∈ b.2.1) : lotAt b l.1.1 = l.1 ∧ isLot b l.1.1 = true ∧ heldB b l.1.1 = l.2 := by
 unfold lotAt isLot heldB
 rcases findN_cases nameL b.2.1 l.1.1 with ⟨_, h2⟩ | ⟨x, h1, h2, h3⟩
 ·exact absurd rfl (h2 l hl)
 ·rw [h1, name_uniq hok.ls h2 hl h3]; exact ⟨rfl, rfl, rfl⟩
end Go.Proofs.YteomomeigbfeoaaGreatDoor
namespace Go.Proofs.YteomomeigbfeoaaGreatDoor
open Go.RowKit Go.Lib Go.Sort
open Go.MapKept Go.ChangeMaps
open Go.Maps (Keyed)
section
variable {α : Type} {f : α → ByteArray} {v : α → Value}
def entO (f : α → ByteArray) (v : α → Value) (x : α) : Ent := (.string (f x), v x)
theorem names_nodup {P : Program} {k : TypeId} {w : World} {b : Nat} {m : List α} (h : MapL P k w b (m.map (entO f v))) : (m.map f).Nodup := by
 have h1 := h.nodup
 rw [List.map_map] at h1
 unfold List.Nodup at *
 rw [List.pairwise_map] at *
 exact h1.imp fun h e => h (by simp only [Function.comp, entO]; rw [e])
theorem nodup_uniq {m : List α} (h : (m.map f).Nodup) : ∀ {x y : α}, x ∈ m → y ∈ m → f x = f y → x = y := by
 induction m with
 | nil => intro x y hx; simp at hx
 | cons a m ih =>
  intro x y hx hy e
  rw [List.map_cons] at h
  obtain ⟨h1, h2⟩ := List.nodup_cons.1 h
  rcases List.mem_cons.1 hx with hx | hx
  ·rcases List.mem_cons.1 hy with hy | hy
   ·exact hx.trans hy.symm
   ·exact absurd (List.mem_map.2 ⟨y, hy, by rw [← e, hx]⟩) h1
  ·rcases List.mem_cons.1 hy with hy | hy
   ·exact absurd (List.mem_map.2 ⟨x, hx, by rw [e, hy]⟩) h1
   ·exact ih h2 hx hy e
theorem nodup_of_names {m : List α} (h : (m.map f).Nodup) : m.Nodup := by
 unfold List.Nodup at *
 rw [List.pairwise_map] at h
 exact h.imp fun h e => h (by rw [e])
theorem askO_hit {k t e : TypeId} {W : World} {b : Nat} {m : List α} (K : Keyed Tryz.prog k) (ht : Tryz.prog.underlying t = some (.map k e)) (h : MapL Tryz.prog k W b (m.map (entO f v))) {c : ByteArray} {kl : Lit} (hk : keyOf Tryz.prog k (.string c) = some kl) {y : α} (hy : findN f m c = some y) : (Instr.lookup t (.map (some b)) (.string c) true).run Tryz.prog W = .ok (.tuple #[v y, .bool true]) W := by
 obtain ⟨h1, h2⟩ := findN_mem hy
 exact h.ask_hit K ht hk (List.mem_map.2 ⟨y, h1, by unfold entO; rw [h2]⟩)
theorem askO_miss {k t e : TypeId} {W : World} {b : Nat} {m : List α} (K : Keyed Tryz.prog k) (ht : Tryz.prog.underlying t = some (.map k e)) (h : MapL Tryz.prog k W b (m.map (entO f v))) {c : ByteArray} {kl : Lit} (hk : keyOf Tryz.prog k (.string c) = some kl) {z : Value} (hz : (zeroValue e).run Tryz.prog W = .ok z W) (hy : findN f m c = none) : (Instr.lookup t (.map (some b)) (.string c) true).run Tryz.prog W = .ok (.tuple #[z, .bool false]) W := by
 refine h.ask_miss K ht hk hz fun u hu => ?_
 obtain ⟨x, hx, e9⟩ := List.mem_map.1 hu
 rcases findN_cases f m c with ⟨_, h2⟩ | ⟨y, h1, _⟩
 ·have : f x = c := by have := congrArg Prod.fst e9; simpa [entO] using this
  exact h2 x hx this
 ·rw [h1] at hy; cases hy
structure EqS (f : α → ByteArray) (m m' d t : List α) : Prop where
 perm : (d ++ t).Perm m
 seen : ∀ x ∈ d, x ∈ m'
theorem EqS.start (m m' : List α) : EqS f m m' [] m := ⟨List.Perm.refl _, by simp⟩
theorem EqS.step {m m' d t t' : List α} {x : α} (h : EqS f m m' d t) (hp : t.Perm (x :: t')) (hx : findN f m' (f x) = some x) : EqS f m m' (d ++ [x]) t' := by
 refine ⟨?_, fun y hy => ?_⟩
 ·rw [List.append_assoc]
  exact (hp.symm.append_left d).trans h.perm
 ·rcases List.mem_append.1 hy with hy | hy
  ·exact h.seen y hy
  ·obtain rfl : y = x := by simpa using hy
   exact (findN_mem hx).1
theorem EqS.done {m m' d : List α} (h : EqS f m m' d []) (hn : (m.map f).Nodup) (hl : m.length = m'.length) : m.Perm m' := by
 have hp : d.Perm m := by have := h.perm; simpa using this
 exact perm_of_sub (nodup_of_names hn) (fun x hx => h.seen x (hp.mem_iff.2 hx)) hl
theorem EqS.other {m m' d t t' : List α} {x y : α} (h : EqS f m m' d t) (hp : t.Perm (x :: t')) (hn : (m'.map f).Nodup) (hx : findN f m' (f x) = some y) (hne : x ≠ y) : ¬ m.Perm m' := fun h9 => by
 have hm : x ∈ m := h.perm.mem_iff.1 (List.mem_append.2 (Or.inr (hp.mem_iff.2 (List.mem_cons_self ..))))
 obtain ⟨h1, h2⟩ := findN_mem hx
 exact hne (nodup_uniq hn (h9.mem_iff.1 hm) h1 h2.symm)
theorem EqS.miss {m m' d t t' : List α} {x : α} (h : EqS f m m' d t) (hp : t.Perm (x :: t')) (hx : findN f m' (f x) = none) : ¬ m.Perm m' := fun h9 => by
 have hm : x ∈ m := h.perm.mem_iff.1 (List.mem_append.2 (Or.inr (hp.mem_iff.2 (List.mem_cons_self ..))))
 rcases findN_cases f m' (f x) with ⟨_, h2⟩ | ⟨y, h1, _⟩
 ·exact h2 x (h9.mem_iff.1 hm) rfl
 ·rw [h1] at hx; cases hx
end
section
variable {α : Type} {f : α → ByteArray} {v : α → Value} {P : Program} {k : TypeId} {w : World} {ops : Array Oper} {rest : List Oper} {o : Oper} {a : Act} {Q : Exit → Act → World → Prop}
theorem wpO_next (f : α → ByteArray) (v : α → Value) (hg : o.guard = none) (it : Operand) (hop : o.op = Op.next it false) (b r : Nat) (L : List Ent) (t : List α) (hit : a.eval it = .pointer (some ⟨r, 0, none⟩)) (h : RangeL P k w b r L (t.map (entO f v)))
  (hDone : t = [] → wpList P ops Q rest (a.put o.dst (.tuple #[.bool false])) w)
  (hMore : ∀ (x : α) t' w', t.Perm (x :: t') → RangeL P k w' b r L (t'.map (entO f v)) → w.grownBy w' (some r) → w'.heap.size = w.heap.size → (Instr.entry (.pointer (some ⟨r, 0, none⟩))).run P w' = .ok (.tuple #[.string (f x), v x]) w' →
   wpList P ops Q rest (a.put o.dst (.tuple #[.bool true, .string (f x), v x])) w') : wpList P ops Q (o :: rest) a w := by
 refine wpL_next hg it hop k b r L (t.map (entO f v)) hit h (fun e => hDone (by simpa using e)) fun x T' w' hp hrg hgr hsz hen => ?_
 obtain ⟨l, t', rfl, h1, h2⟩ := perm_map_consF hp
 exact hMore l t' w' h1 (hrg.perm h2) hgr hsz hen
end
end Go.Proofs.YteomomeigbfeoaaGreatDoor
namespace Go.Proofs.YteomomeigbfeoaaGreatDoor
open Go.RowKit Go.Lib Go.Sort
theorem Tryz.guardGq : Tryz.prog.eqGuardType Tryz.prog.depth 24 = false := by kernel_rfl
theorem eqG_run (x y : Gd) (w : World) : (Op.equalIn 10000 24 (.agg #[.string x.1, .int .i64 x.2]) (.agg #[.string y.1, .int .i64 y.2])).run Tryz.prog w = .ok (decide (x = y)) w := by
 obtain ⟨a, r⟩ := x
 obtain ⟨a', r'⟩ := y
 have u3 := Tryz.underlying3
 have a3 := Tryz.isAgg3
 have z3 := Tryz.sizeOf3
 have u9 := Tryz.underlying9
 have a9 := Tryz.isAgg9
 have z9 := Tryz.sizeOf9
 have hS : Tryz.prog.underlying 24 = some (.struct (Tryz.prog.fieldsOf 24)) := by kernel_rfl
 have hp : Tryz.prog.stoodInHeld 24 = false := by kernel_rfl
 rw [show (10000 : Nat) = 9999 + 1 from rfl, run_equalIn_agg w 9999 24 _ _ hS hp]
 simp only [Program.fieldsOf, Tryz.underlying24]
 have e3 := same_eq a a'
 go_simp
 by_cases h1 : a = a' <;> by_cases h2 : r = r' <;> simp [h1, h2]
abbrev entGo : Gd → Ent := entO (fun g : Gd => g.1) (fun g : Gd => Value.agg #[(Value.string g.1), (Value.int .i64 g.2)])
section
variable {w : World} {ops : Array Oper} {rest : List Oper} {o : Oper} {a : Act} {Q : Exit → Act → World → Prop}
theorem wpGo_next (hg : o.guard = none) (it : Operand) (hop : o.op = Op.next it false) (b r : Nat) (L : List Ent) (t : List Gd) (hit : a.eval it = .pointer (some ⟨r, 0, none⟩)) (h : RangeL Tryz.prog 9 w b r L (t.map entGo))
  (hDone : t = [] → wpList Tryz.prog ops Q rest (a.put o.dst (.tuple #[.bool false])) w)
  (hMore : ∀ (xa : ByteArray) (xp : Int) t' w', t.Perm ((xa, xp) :: t') → RangeL Tryz.prog 9 w' b r L (t'.map entGo) → w.grownBy w' (some r) → w'.heap.size = w.heap.size → (Instr.entry (.pointer (some ⟨r, 0, none⟩))).run Tryz.prog w' = .ok (.tuple #[.string xa, .agg #[.string xa, .int .i64 xp]]) w' →
   wpList Tryz.prog ops Q rest (a.put o.dst (.tuple #[.bool true, .string xa, .agg #[.string xa, .int .i64 xp]])) w') : wpList Tryz.prog ops Q (o :: rest) a w :=
 wpO_next (fun g : Gd => g.1) (fun g : Gd => Value.agg #[(Value.string g.1), (Value.int .i64 g.2)]) hg it hop b r L t hit h hDone fun ⟨xa, xp⟩ t' w' h1 h2 h3 h4 h5 => hMore xa xp t' w' h1 h2 h3 h4 h5
end
theorem askGo_hit {W : World} {b : Nat} {m : List Gd} (h : MapL Tryz.prog 9 W b (m.map entGo)) {c : ByteArray} {kl : Lit} (hk : keyOf Tryz.prog 9 (.string c) = some kl) {ya : ByteArray} {yp : Int} (hy : findN (fun g : Gd => g.1) m c = some (ya, yp)) : (Instr.lookup 90 (.map (some b)) (.string c) true).run Tryz.prog W = .ok (.tuple #[.agg #[.string ya, .int .i64 yp], .bool true]) W :=
 askO_hit (v := (fun g : Gd => Value.agg #[(Value.string g.1), (Value.int .i64 g.2)])) Tryz.keyedS Tryz.underlying90 h hk hy
theorem askGo_miss {W : World} {b : Nat} {m : List Gd} (h : MapL Tryz.prog 9 W b (m.map entGo)) {c : ByteArray} {kl : Lit} (hk : keyOf Tryz.prog 9 (.string c) = some kl) (hy : findN (fun g : Gd => g.1) m c = none) : (Instr.lookup 90 (.map (some b)) (.string c) true).run Tryz.prog W = .ok (.tuple #[.agg #[.string ⟨#[]⟩, .int .i64 0], .bool false]) W :=
 askO_miss (v := (fun g : Gd => Value.agg #[(Value.string g.1), (Value.int .i64 g.2)])) Tryz.keyedS Tryz.underlying90 h hk (Tryz.zeroValue24 W) hy
theorem equalG_any (w : World) (b1 b2 : Nat) (m1 m2 : List Gd) (h1 : MapL Tryz.prog 9 w b1 (m1.map entGo)) (h2 : MapL Tryz.prog 9 w b2 (m2.map entGo)) (s1 : m1.length ≤ 1000) (s2 : m2.length ≤ 1000) :
  Calls Tryz.prog 51 #[.map (some b1), .map (some b2)] w fun e w' => ∃ r, e = .returned (.bool r) ∧ (r = true ↔ m1.Perm m2) ∧ Below w.heap.size w w' := by
 have HN1 : Hid ((m1.map (fun g : Gd => g.1)).Nodup) := names_nodup h1
 have HN2 : Hid ((m2.map (fun g : Gd => g.1)).Nodup) := names_nodup h2
 have HK : Hid (∀ (xa : ByteArray) (xp : Int), (xa, xp) ∈ m1 → ∃ kl, keyOf Tryz.prog 9 (.string xa) = some kl) := fun xa xp hx => h1.keys _ (List.mem_map.2 ⟨_, hx, rfl⟩)
 have H2 : Hid (∀ W, Below w.heap.size w W → MapL Tryz.prog 9 W b2 (m2.map entGo)) := fun W hb => h2.below hb h2.lt
 obtain ⟨l1, hl1⟩ : ∃ l1, (m1.map entGo).length = l1 := ⟨_, rfl⟩
 obtain ⟨l2, hl2⟩ : ∃ l2, (m2.map entGo).length = l2 := ⟨_, rfl⟩
 have q1 : m1.length = l1 := by rw [← hl1]; simp
 have q2 : m2.length = l2 := by rw [← hl2]; simp
 have t1 : l1 ≤ 1000 := by omega
 have t2 : l2 ≤ 1000 := by omega
 clear s1 s2
 go_enter Tryz.func51, Tryz.ntmps51
 by_cases hll : l1 = l2
 ·have HLe : Hid (m1.length = m2.length) := by show _ = _; omega
  subst hll
  clear q1 q2
  go_wp2_with (first
   | (at_len; refine wpL_len rfl _ 90 rfl 9 24 Tryz.underlying90 b1 _ l1 hl1 rfl h1 ?_)
   | (at_len; refine wpL_len rfl _ 90 rfl 9 24 Tryz.underlying90 b2 _ l1 hl2 rfl h2 ?_)
   | (at_range; refine wpL_range rfl _ 90 rfl 9 24 Tryz.underlying90 b1 (m1.map entGo) rfl h1 ?_; intro w0 hrg0 hg0 hs0))
  go_frame
  have hb0 : Below w.heap.size w w0 := ⟨hg0.os, hg0.tape, hg0.output, hg0.size, fun k hk => hg0.block k hk (by simp)⟩
  clear hg0 hs0 h1 h2 hl1 hl2 t1 t2
  go_loopw [] (fun wr => ∃ d t : List Gd, EqS (fun g : Gd => g.1) m1 m2 d t ∧ RangeL Tryz.prog 9 wr b1 w.heap.size (m1.map entGo) (t.map entGo) ∧ Below w.heap.size w wr) (fun wr => wr.rangeLeft b1 w.heap.size)
  case atStart => exact ⟨[], m1, EqS.start _ _, hrg0, hb0⟩
  case round =>
   obtain ⟨d, t, hE, hrg, hb⟩ := hrel
   have HE : Hid (EqS _ _ _ _ _) := hE
   go_wp2_with (at_next; refine wpGo_next rfl _ rfl b1 w.heap.size _ t rfl hrg ?_ ?_)
   ·intro ht
    subst ht
    go_wp2
    go_ret
    exact ⟨true, rfl, ⟨fun _ => HE.out.done HN1.out HLe.out, fun _ => rfl⟩, hb⟩
   ·intro xa xp t' w1 hp1 hrg1 hg1 hs1 hen
    have hb1 := grown_below hb (Nat.le_refl _) hg1
    have HP : Hid (t.Perm ((xa, xp) :: t')) := hp1
    have HM : Hid (wr.rangeLeft b1 w.heap.size = w1.rangeLeft b1 w.heap.size + 1) := by
     show _ = _
     rw [hrg.left_eq, hrg1.left_eq]
     have := hp1.length_eq
     simpa using this
    obtain ⟨kl, hkl⟩ := HK.out xa xp (hE.perm.mem_iff.1 (List.mem_append.2 (Or.inr (hp1.mem_iff.2 (List.mem_cons_self ..)))))
    have hbN := hb1.alloc hb1.size (.cells #[.string xa, .int .i64 xp] 24)
    have hbM : Below w1.heap.size w1 (w1.alloc (.cells #[.string xa, .int .i64 xp] 24)) := (Below.refl _ w1).alloc (Nat.le_refl _) _
    have nN := heap_alloc_new w1 (.cells #[.string xa, .int .i64 xp] 24)
    obtain ⟨W2, hW2⟩ : ∃ W2, w1.alloc (.cells #[.string xa, .int .i64 xp] 24) = W2 := ⟨_, rfl⟩
    rw [hW2] at hbN nN hbM
    have hrg2 : RangeL Tryz.prog 9 W2 b1 w.heap.size (m1.map entGo) (t'.map entGo) := hrg1.below hbM hrg1.map.lt hrg1.lt
    have HL2 : Hid (W2.rangeLeft b1 w.heap.size = w1.rangeLeft b1 w.heap.size) := hrg2.left_eq.trans hrg1.left_eq.symm
    cases hfi : findN (fun g : Gd => g.1) m2 xa with
    | none =>
     obtain ⟨V1, V2, V5, e1, e2, e3, ⟨k1, k2, k5⟩, ⟨k6, k7⟩, n5, kb1, kb2, kb5⟩ := boxed2 W2 (.string ⟨#[]⟩) (.int .i64 0) (.string ⟨#[]⟩) (.int .i64 0) 24
     have hl := askGo_miss (H2.out W2 hbN) hkl hfi
     have HB5 : Hid (Below w.heap.size w V5) := hbN.trans (kb5.mono hbN.size)
     clear hE hp1 hrg hrg1 hg1 hb hb1 hbN hbM nN hrg2 hs1 hkl n5 kb5
     go_wp2_with (at_lookup; refine wpL_ask rfl _ _ 90 rfl b2 _ _ rfl rfl hl ?_)
     go_ret
     exact ⟨false, rfl, ⟨fun e9 => (by cases e9), fun e9 => absurd e9 (HE.out.miss HP.out hfi)⟩, HB5.out⟩
    | some y =>
     obtain ⟨ya, yp⟩ := y
     have kb5 : Below W2.heap.size W2 (W2.alloc (.cells #[.string ya, .int .i64 yp] 24)) := (Below.refl _ W2).alloc (Nat.le_refl _) _
     have n5 := heap_alloc_new W2 (.cells #[.string ya, .int .i64 yp] 24)
     obtain ⟨V5, hV5⟩ : ∃ V5, W2.alloc (.cells #[.string ya, .int .i64 yp] 24) = V5 := ⟨_, rfl⟩
     rw [hV5] at kb5 n5
     have hl := askGo_hit (H2.out W2 hbN) hkl hfi
     have n9 := (kb5.block _ (Array.getElem?_eq_some_iff.1 nN).1).trans nN
     have c0 : V5.cell? ⟨w1.heap.size, 0, none⟩ = some (.string xa) := by rw [cell_of_heap n9]; rfl
     have c1 : V5.cell? ⟨w1.heap.size, 1, none⟩ = some (.int .i64 xp) := by rw [cell_of_heap n9]; rfl
     have d0 : V5.cell? ⟨W2.heap.size, 0, none⟩ = some (.string ya) := by rw [cell_of_heap n5]; rfl
     have d1 : V5.cell? ⟨W2.heap.size, 1, none⟩ = some (.int .i64 yp) := by rw [cell_of_heap n5]; rfl
     have HB5 : Hid (Below w.heap.size w V5) := hbN.trans (kb5.mono hbN.size)
     have HR5 : Hid (RangeL Tryz.prog 9 V5 b1 w.heap.size (m1.map entGo) (t'.map entGo)) := hrg2.below kb5 hrg2.map.lt hrg2.lt
     have HLL : Hid (V5.rangeLeft b1 w.heap.size = W2.rangeLeft b1 w.heap.size) := HR5.out.left_eq.trans hrg2.left_eq.symm
     have hq := fun W => eqG_run (xa, xp) (ya, yp) W
     have hgd := Tryz.guardGq
     clear hE hp1 hrg hrg1 hg1 hb hb1 hbN hbM nN hrg2 hs1 hkl n5 n9 kb5
     simp only at hq
     by_cases hxy : (xa, xp) = (ya, yp)
     ·have hdec : decide ((xa, xp) = (ya, yp)) = true := decide_eq_true hxy
      rw [hdec] at hq
      have HS : Hid (EqS _ m1 m2 (d ++ [(xa, xp)]) t') := HE.out.step HP.out (by rw [hfi]; exact congrArg some hxy.symm)
      clear hdec
      go_wp2_with (at_lookup; refine wpL_ask rfl _ _ 90 rfl b2 _ _ rfl rfl hl ?_)
      go_roundw
      case rel => exact ⟨_, t', HS.out, HR5.out, HB5.out⟩
      case measure => show World.rangeLeft _ _ _ < _; rw [HM.out, ← HL2.out, HLL.out]; exact Nat.lt_succ_self _
     ·have hdec : decide ((xa, xp) = (ya, yp)) = false := decide_eq_false hxy
      rw [hdec] at hq
      clear hdec
      go_wp2_with (at_lookup; refine wpL_ask rfl _ _ 90 rfl b2 _ _ rfl rfl hl ?_)
      go_ret
      exact ⟨false, rfl, ⟨fun e9 => (by cases e9), fun e9 => absurd e9 (HE.out.other HP.out HN2.out hfi hxy)⟩, HB5.out⟩
 ·have HLe : Hid (¬ m1.Perm m2) := fun e9 => hll (by have := e9.length_eq; omega)
  have hll' : (l1 : Int) ≠ (l2 : Int) := by omega
  clear q1 q2
  go_wp2_with (first
   | (at_len; refine wpL_len rfl _ 90 rfl 9 24 Tryz.underlying90 b1 _ l1 hl1 rfl h1 ?_)
   | (at_len; refine wpL_len rfl _ 90 rfl 9 24 Tryz.underlying90 b2 _ l2 hl2 rfl h2 ?_))
  go_ret
  exact ⟨false, rfl, ⟨fun e9 => (by cases e9), fun e9 => absurd e9 HLe.out⟩, Below.refl _ _⟩
end Go.Proofs.YteomomeigbfeoaaGreatDoor
namespace Go.Proofs.YteomomeigbfeoaaGreatDoor
open Go.RowKit Go.Lib Go.Sort
theorem Tryz.guardQq : Tryz.prog.eqGuardType Tryz.prog.depth 26 = false := by kernel_rfl
theorem eqL9a_run (x y : Lo) (w : World) : (Op.equalIn 10000 26 (.agg #[.string x.1, .string x.2.1, .int .i64 x.2.2.1, .int .i64 x.2.2.2]) (.agg #[.string y.1, .string y.2.1, .int .i64 y.2.2.1, .int .i64 y.2.2.2])).run Tryz.prog w = .ok (decide (x = y)) w := by
 obtain ⟨a, r, b, c⟩ := x
 obtain ⟨a', r', b', c'⟩ := y
 have u3 := Tryz.underlying3
 have a3 := Tryz.isAgg3
 have z3 := Tryz.sizeOf3
 have u9 := Tryz.underlying9
 have a9 := Tryz.isAgg9
 have z9 := Tryz.sizeOf9
 have hS : Tryz.prog.underlying 26 = some (.struct (Tryz.prog.fieldsOf 26)) := by kernel_rfl
 have hp : Tryz.prog.stoodInHeld 26 = false := by kernel_rfl
 rw [show (10000 : Nat) = 9999 + 1 from rfl, run_equalIn_agg w 9999 26 _ _ hS hp]
 simp only [Program.fieldsOf, Tryz.underlying26]
 have e3 := same_eq a a'
 have e4 := same_eq r r'
 go_simp
 by_cases h1 : a = a' <;> by_cases h2 : r = r' <;> by_cases h3 : b = b' <;> by_cases h4 : c = c' <;> simp [h1, h2, h3, h4]
abbrev entQo : Lo → Ent := entO (fun g : Lo => g.1) (fun g : Lo => Value.agg #[(Value.string g.1), (Value.string g.2.1), (Value.int .i64 g.2.2.1), (Value.int .i64 g.2.2.2)])
section
variable {w : World} {ops : Array Oper} {rest : List Oper} {o : Oper} {a : Act} {Q : Exit → Act → World → Prop}
theorem wpQo_next (hg : o.guard = none) (it : Operand) (hop : o.op = Op.next it false) (b r : Nat) (L : List Ent) (t : List Lo) (hit : a.eval it = .pointer (some ⟨r, 0, none⟩)) (h : RangeL Tryz.prog 9 w b r L (t.map entQo))
  (hDone : t = [] → wpList Tryz.prog ops Q rest (a.put o.dst (.tuple #[.bool false])) w)
  (hMore : ∀ (xa : ByteArray) (xc : ByteArray) (xu : Int) (xk : Int) t' w', t.Perm ((xa, xc, xu, xk) :: t') → RangeL Tryz.prog 9 w' b r L (t'.map entQo) → w.grownBy w' (some r) → w'.heap.size = w.heap.size → (Instr.entry (.pointer (some ⟨r, 0, none⟩))).run Tryz.prog w' = .ok (.tuple #[.string xa, .agg #[.string xa, .string xc, .int .i64 xu, .int .i64 xk]]) w' →
   wpList Tryz.prog ops Q rest (a.put o.dst (.tuple #[.bool true, .string xa, .agg #[.string xa, .string xc, .int .i64 xu, .int .i64 xk]])) w') : wpList Tryz.prog ops Q (o :: rest) a w :=
 wpO_next (fun g : Lo => g.1) (fun g : Lo => Value.agg #[(Value.string g.1), (Value.string g.2.1), (Value.int .i64 g.2.2.1), (Value.int .i64 g.2.2.2)]) hg it hop b r L t hit h hDone fun ⟨xa, xc, xu, xk⟩ t' w' h1 h2 h3 h4 h5 => hMore xa xc xu xk t' w' h1 h2 h3 h4 h5
end
theorem askQo_hit {W : World} {b : Nat} {m : List Lo} (h : MapL Tryz.prog 9 W b (m.map entQo)) {c : ByteArray} {kl : Lit} (hk : keyOf Tryz.prog 9 (.string c) = some kl) {ya : ByteArray} {yc : ByteArray} {yu : Int} {yk : Int} (hy : findN (fun g : Lo => g.1) m c = some (ya, yc, yu, yk)) : (Instr.lookup 93 (.map (some b)) (.string c) true).run Tryz.prog W = .ok (.tuple #[.agg #[.string ya, .string yc, .int .i64 yu, .int .i64 yk], .bool true]) W :=
 askO_hit (v := (fun g : Lo => Value.agg #[(Value.string g.1), (Value.string g.2.1), (Value.int .i64 g.2.2.1), (Value.int .i64 g.2.2.2)])) Tryz.keyedS Tryz.underlying93 h hk hy
theorem askQo_miss {W : World} {b : Nat} {m : List Lo} (h : MapL Tryz.prog 9 W b (m.map entQo)) {c : ByteArray} {kl : Lit} (hk : keyOf Tryz.prog 9 (.string c) = some kl) (hy : findN (fun g : Lo => g.1) m c = none) : (Instr.lookup 93 (.map (some b)) (.string c) true).run Tryz.prog W = .ok (.tuple #[.agg #[.string ⟨#[]⟩, .string ⟨#[]⟩, .int .i64 0, .int .i64 0], .bool false]) W :=
 askO_miss (v := (fun g : Lo => Value.agg #[(Value.string g.1), (Value.string g.2.1), (Value.int .i64 g.2.2.1), (Value.int .i64 g.2.2.2)])) Tryz.keyedS Tryz.underlying93 h hk (Tryz.zeroValue26 W) hy
theorem equalQ_any (w : World) (b1 b2 : Nat) (m1 m2 : List Lo) (h1 : MapL Tryz.prog 9 w b1 (m1.map entQo)) (h2 : MapL Tryz.prog 9 w b2 (m2.map entQo)) (s1 : m1.length ≤ 1000) (s2 : m2.length ≤ 1000) :
  Calls Tryz.prog 53 #[.map (some b1), .map (some b2)] w fun e w' => ∃ r, e = .returned (.bool r) ∧ (r = true ↔ m1.Perm m2) ∧ Below w.heap.size w w' := by
 have HN1 : Hid ((m1.map (fun g : Lo => g.1)).Nodup) := names_nodup h1
 have HN2 : Hid ((m2.map (fun g : Lo => g.1)).Nodup) := names_nodup h2
 have HK : Hid (∀ (xa : ByteArray) (xc : ByteArray) (xu : Int) (xk : Int), (xa, xc, xu, xk) ∈ m1 → ∃ kl, keyOf Tryz.prog 9 (.string xa) = some kl) := fun xa xc xu xk hx => h1.keys _ (List.mem_map.2 ⟨_, hx, rfl⟩)
 have H2 : Hid (∀ W, Below w.heap.size w W → MapL Tryz.prog 9 W b2 (m2.map entQo)) := fun W hb => h2.below hb h2.lt
 obtain ⟨l1, hl1⟩ : ∃ l1, (m1.map entQo).length = l1 := ⟨_, rfl⟩
 obtain ⟨l2, hl2⟩ : ∃ l2, (m2.map entQo).length = l2 := ⟨_, rfl⟩
 have q1 : m1.length = l1 := by rw [← hl1]; simp
 have q2 : m2.length = l2 := by rw [← hl2]; simp
 have t1 : l1 ≤ 1000 := by omega
 have t2 : l2 ≤ 1000 := by omega
 clear s1 s2
 go_enter Tryz.func53, Tryz.ntmps53
 by_cases hll : l1 = l2
 ·have HLe : Hid (m1.length = m2.length) := by show _ = _; omega
  subst hll
  clear q1 q2
  go_wp2_with (first
   | (at_len; refine wpL_len rfl _ 93 rfl 9 26 Tryz.underlying93 b1 _ l1 hl1 rfl h1 ?_)
   | (at_len; refine wpL_len rfl _ 93 rfl 9 26 Tryz.underlying93 b2 _ l1 hl2 rfl h2 ?_)
   | (at_range; refine wpL_range rfl _ 93 rfl 9 26 Tryz.underlying93 b1 (m1.map entQo) rfl h1 ?_; intro w0 hrg0 hg0 hs0))
  go_frame
  have hb0 : Below w.heap.size w w0 := ⟨hg0.os, hg0.tape, hg0.output, hg0.size, fun k hk => hg0.block k hk (by simp)⟩
  clear hg0 hs0 h1 h2 hl1 hl2 t1 t2
  go_loopw [] (fun wr => ∃ d t : List Lo, EqS (fun g : Lo => g.1) m1 m2 d t ∧ RangeL Tryz.prog 9 wr b1 w.heap.size (m1.map entQo) (t.map entQo) ∧ Below w.heap.size w wr) (fun wr => wr.rangeLeft b1 w.heap.size)
  case atStart => exact ⟨[], m1, EqS.start _ _, hrg0, hb0⟩
  case round =>
   obtain ⟨d, t, hE, hrg, hb⟩ := hrel
   have HE : Hid (EqS _ _ _ _ _) := hE
   go_wp2_with (at_next; refine wpQo_next rfl _ rfl b1 w.heap.size _ t rfl hrg ?_ ?_)
   ·intro ht
    subst ht
    go_wp2
    go_ret
    exact ⟨true, rfl, ⟨fun _ => HE.out.done HN1.out HLe.out, fun _ => rfl⟩, hb⟩
   ·intro xa xc xu xk t' w1 hp1 hrg1 hg1 hs1 hen
    have hb1 := grown_below hb (Nat.le_refl _) hg1
    have HP : Hid (t.Perm ((xa, xc, xu, xk) :: t')) := hp1
    have HM : Hid (wr.rangeLeft b1 w.heap.size = w1.rangeLeft b1 w.heap.size + 1) := by
     show _ = _
     rw [hrg.left_eq, hrg1.left_eq]
     have := hp1.length_eq
     simpa using this
    obtain ⟨kl, hkl⟩ := HK.out xa xc xu xk (hE.perm.mem_iff.1 (List.mem_append.2 (Or.inr (hp1.mem_iff.2 (List.mem_cons_self ..)))))
    have hbN := hb1.alloc hb1.size (.cells #[.string xa, .string xc, .int .i64 xu, .int .i64 xk] 26)
    have hbM : Below w1.heap.size w1 (w1.alloc (.cells #[.string xa, .string xc, .int .i64 xu, .int .i64 xk] 26)) := (Below.refl _ w1).alloc (Nat.le_refl _) _
    have nN := heap_alloc_new w1 (.cells #[.string xa, .string xc, .int .i64 xu, .int .i64 xk] 26)
    obtain ⟨W2, hW2⟩ : ∃ W2, w1.alloc (.cells #[.string xa, .string xc, .int .i64 xu, .int .i64 xk] 26) = W2 := ⟨_, rfl⟩
    rw [hW2] at hbN nN hbM
    have hrg2 : RangeL Tryz.prog 9 W2 b1 w.heap.size (m1.map entQo) (t'.map entQo) := hrg1.below hbM hrg1.map.lt hrg1.lt
    have HL2 : Hid (W2.rangeLeft b1 w.heap.size = w1.rangeLeft b1 w.heap.size) := hrg2.left_eq.trans hrg1.left_eq.symm
    cases hfi : findN (fun g : Lo => g.1) m2 xa with
    | none =>
     obtain ⟨V1, V2, V3, V4, V5, e1, e2, e3, e4, e5, ⟨k1, k2, k3, k4, k5⟩, ⟨k6, k7⟩, ⟨k8, k9⟩, ⟨k10, k11⟩, n5, kb1, kb5⟩ := boxed4 W2 (.string ⟨#[]⟩) (.string ⟨#[]⟩) (.int .i64 0) (.int .i64 0) (.string ⟨#[]⟩) (.string ⟨#[]⟩) (.int .i64 0) (.int .i64 0) 26
     have hl := askQo_miss (H2.out W2 hbN) hkl hfi
     have HB5 : Hid (Below w.heap.size w V5) := hbN.trans (kb5.mono hbN.size)
     clear hE hp1 hrg hrg1 hg1 hb hb1 hbN hbM nN hrg2 hs1 hkl n5 kb5
     go_wp2_with (at_lookup; refine wpL_ask rfl _ _ 93 rfl b2 _ _ rfl rfl hl ?_)
     go_ret
     exact ⟨false, rfl, ⟨fun e9 => (by cases e9), fun e9 => absurd e9 (HE.out.miss HP.out hfi)⟩, HB5.out⟩
    | some y =>
     obtain ⟨ya, yc, yu, yk⟩ := y
     have kb5 : Below W2.heap.size W2 (W2.alloc (.cells #[.string ya, .string yc, .int .i64 yu, .int .i64 yk] 26)) := (Below.refl _ W2).alloc (Nat.le_refl _) _
     have n5 := heap_alloc_new W2 (.cells #[.string ya, .string yc, .int .i64 yu, .int .i64 yk] 26)
     obtain ⟨V5, hV5⟩ : ∃ V5, W2.alloc (.cells #[.string ya, .string yc, .int .i64 yu, .int .i64 yk] 26) = V5 := ⟨_, rfl⟩
     rw [hV5] at kb5 n5
     have hl := askQo_hit (H2.out W2 hbN) hkl hfi
     have n9 := (kb5.block _ (Array.getElem?_eq_some_iff.1 nN).1).trans nN
     have c0 : V5.cell? ⟨w1.heap.size, 0, none⟩ = some (.string xa) := by rw [cell_of_heap n9]; rfl
     have c1 : V5.cell? ⟨w1.heap.size, 1, none⟩ = some (.string xc) := by rw [cell_of_heap n9]; rfl
     have c2 : V5.cell? ⟨w1.heap.size, 2, none⟩ = some (.int .i64 xu) := by rw [cell_of_heap n9]; rfl
     have c3 : V5.cell? ⟨w1.heap.size, 3, none⟩ = some (.int .i64 xk) := by rw [cell_of_heap n9]; rfl
     have d0 : V5.cell? ⟨W2.heap.size, 0, none⟩ = some (.string ya) := by rw [cell_of_heap n5]; rfl
     have d1 : V5.cell? ⟨W2.heap.size, 1, none⟩ = some (.string yc) := by rw [cell_of_heap n5]; rfl
     have d2 : V5.cell? ⟨W2.heap.size, 2, none⟩ = some (.int .i64 yu) := by rw [cell_of_heap n5]; rfl
     have d3 : V5.cell? ⟨W2.heap.size, 3, none⟩ = some (.int .i64 yk) := by rw [cell_of_heap n5]; rfl
     have HB5 : Hid (Below w.heap.size w V5) := hbN.trans (kb5.mono hbN.size)
     have HR5 : Hid (RangeL Tryz.prog 9 V5 b1 w.heap.size (m1.map entQo) (t'.map entQo)) := hrg2.below kb5 hrg2.map.lt hrg2.lt
     have HLL : Hid (V5.rangeLeft b1 w.heap.size = W2.rangeLeft b1 w.heap.size) := HR5.out.left_eq.trans hrg2.left_eq.symm
     have hq := fun W => eqL9a_run (xa, xc, xu, xk) (ya, yc, yu, yk) W
     have hgd := Tryz.guardQq
     clear hE hp1 hrg hrg1 hg1 hb hb1 hbN hbM nN hrg2 hs1 hkl n5 n9 kb5
     simp only at hq
     by_cases hxy : (xa, xc, xu, xk) = (ya, yc, yu, yk)
     ·have hdec : decide ((xa, xc, xu, xk) = (ya, yc, yu, yk)) = true := decide_eq_true hxy
      rw [hdec] at hq
      have HS : Hid (EqS _ m1 m2 (d ++ [(xa, xc, xu, xk)]) t') := HE.out.step HP.out (by rw [hfi]; exact congrArg some hxy.symm)
      clear hdec
      go_wp2_with (at_lookup; refine wpL_ask rfl _ _ 93 rfl b2 _ _ rfl rfl hl ?_)
      go_roundw
      case rel => exact ⟨_, t', HS.out, HR5.out, HB5.out⟩
      case measure => show World.rangeLeft _ _ _ < _; rw [HM.out, ← HL2.out, HLL.out]; exact Nat.lt_succ_self _
     ·have hdec : decide ((xa, xc, xu, xk) = (ya, yc, yu, yk)) = false := decide_eq_false hxy
      rw [hdec] at hq
      clear hdec
      go_wp2_with (at_lookup; refine wpL_ask rfl _ _ 93 rfl b2 _ _ rfl rfl hl ?_)
      go_ret
      exact ⟨false, rfl, ⟨fun e9 => (by cases e9), fun e9 => absurd e9 (HE.out.other HP.out HN2.out hfi hxy)⟩, HB5.out⟩
 ·have HLe : Hid (¬ m1.Perm m2) := fun e9 => hll (by have := e9.length_eq; omega)
  have hll' : (l1 : Int) ≠ (l2 : Int) := by omega
  clear q1 q2
  go_wp2_with (first
   | (at_len; refine wpL_len rfl _ 93 rfl 9 26 Tryz.underlying93 b1 _ l1 hl1 rfl h1 ?_)
   | (at_len; refine wpL_len rfl _ 93 rfl 9 26 Tryz.underlying93 b2 _ l2 hl2 rfl h2 ?_))
  go_ret
  exact ⟨false, rfl, ⟨fun e9 => (by cases e9), fun e9 => absurd e9 HLe.out⟩, Below.refl _ _⟩
end Go.Proofs.YteomomeigbfeoaaGreatDoor
namespace Go.Proofs.YteomomeigbfeoaaGreatDoor
open Go.RowKit Go.Lib Go.Sort
theorem turn_any (w : World) (s : Nat → Addr) (B : Nat) (x : Bl) (b : Bk) (e : En) (h : IsBk w B x b) (hz : SzE e) (hs : Bs w s) (he : entErr e = 0) (h1 : e.1 ≠ kGoods) (h2 : e.1 ≠ kLot) :
  Calls Tryz.prog 50 #[.pointer (some ⟨x.p, 0, none⟩), agE e] w fun r w' => r = .returned (errP s (doB b e).2) ∧ IsBk w' B x (doB b e).1 ∧ Off x.all w w' := by
 rcases findI_cases nameL b.2.1 e.2.2.1.1 with ⟨h9, hno⟩ | ⟨k, l, hkL, hl, hid⟩
 ·rw [doB_none he h1 h2 (by omega)]
  exact turn_none w s B x b e h hz hs hno
 ·obtain ⟨g0, hg0, hg1⟩ := h.ok.wf.lots l (List.mem_of_getElem? hl)
  rcases findI_cases nameG b.1 l.1.2.1 with ⟨_, h8⟩ | ⟨i, g, hiG, hg, hgn⟩
  ·exact absurd hg1 (h8 g0 hg0)
  rw [doB_at he h1 h2 hkL hl hiG hg]
  by_cases hc : stkE e b.2.2 = 0
  ·by_cases hh : heldN e.1 l.2 e.2.2.2.2.2 < 0
   ·have ep : pieceE b e l g = 9 := by unfold pieceE; rw [if_pos hc, if_pos (Or.inl hh)]
    rw [ep, if_neg (by decide)]
    exact turn_neg w s B x b e h hz hs k i l g hl hid hg hgn he h1 h2 hc hh
   by_cases ho : ofL (stkL e b.2.2) e.2.2.1.1 < heldN e.1 l.2 e.2.2.2.2.2
   ·have ep : pieceE b e l g = 9 := by unfold pieceE; rw [if_pos hc, if_pos (Or.inr ho)]
    rw [ep, if_neg (by decide)]
    exact turn_short w s B x b e h hz hs k i l g hl hid hg hgn he h1 h2 hc (by omega) ho
   cases hu : okSu (addSu e.1 g.2 e.2.2.2.2.2) with
   | false =>
    have ep : pieceE b e l g = 2 := by unfold pieceE; rw [if_pos hc, if_neg (by omega), hu]; rfl
    rw [ep, if_neg (by decide)]
    exact turn_bound w s B x b e h hz hs k i l g hl hid hg hgn he h1 h2 hc (by omega) (by omega) hu
   | true =>
    have ep : pieceE b e l g = 0 := by unfold pieceE; rw [if_pos hc, if_neg (by omega), hu]; rfl
    rw [if_pos ep]
    exact turn_ok w s B x b e h hz hs k i l g hl hid hg hgn he h1 h2 hc (by omega) (by omega) hu
  ·have ep : pieceE b e l g = stkE e b.2.2 := by unfold pieceE; rw [if_neg hc]
   rw [ep, if_neg hc]
   exact turn_stk w s B x b e h hz hs k i l g hl hid hg hgn he h1 h2 hc
theorem bdo_err (w : World) (s : Nat → Addr) (B : Nat) (x : Bl) (b : Bk) (e : En) (h : IsBk w B x b) (hz : SzE e) (hs : Bs w s) (he : entErr e ≠ 0) :
  Calls Tryz.prog 13 #[.pointer (some ⟨x.p, 0, none⟩), agE e] w fun r w' => r = .returned (errP s (entErr e)) ∧ IsBk w' B x b ∧ Off x.all w w' := by
 have hE := BlkE.new w e
 have hb1 : Below w.heap.size w (w.alloc (celE e)) := (Below.refl _ w).alloc (Nat.le_refl _) _
 have hC := echeck_any e (w.alloc (celE e)) s hz (hs.below hb1).es
 rw [errP_pos s he] at hC ⊢
 generalize s (entErr e - 1) = ad at *
 obtain ⟨ps, bs, h⟩ := h
 obtain ⟨_, _, _, _, p4, _⟩ := (h.all hb1).cells
 obtain ⟨t0, t1, t2, t3, t4, t5, t6, t7, t8, t9, t10, t11, t12, t13⟩ := hE.at
 have HF : Hid (∀ W, Below w.heap.size w W → IsBk W B x b ∧ Off x.all w W) := fun W hb => ⟨⟨ps, bs, h.all hb⟩, Off.of_below hb⟩
 have HB : Hid (Below _ _ _) := hb1
 have HC : Hid (Calls Tryz.prog 47 _ _ _) := hC
 clear h hz hs he hE hb1 hC
 obtain ⟨ak, ⟨agc, agp⟩, ⟨ali, alc, alu, alk⟩, ⟨afz, afr, afb⟩, ⟨atz, atr, atb⟩, an⟩ := e
 unfold agE celE at *
 simp only at *
 go_enter Tryz.func13, Tryz.ntmps13
 go_wp2_with (go_at_call 47; refine HC.out.mono ?_; rintro r w1 ⟨rfl, hb2⟩)
 go_ret
 exact ⟨rfl, HF.out _ (HB.out.trans (hb2.mono HB.out.size))⟩
theorem bdo_goods (w : World) (s : Nat → Addr) (B : Nat) (x : Bl) (b : Bk) (e : En) (h : IsBk w B x b) (hz : SzE e) (hs : Bs w s) (he : entErr e = 0) (hk : e.1 = kGoods) :
  Calls Tryz.prog 13 #[.pointer (some ⟨x.p, 0, none⟩), agE e] w fun r w' => r = .returned (errP s (doB b e).2) ∧ IsBk w' B x (doB b e).1 ∧ Off x.all w w' := by
 have hE := BlkE.new w e
 have hb1 : Below w.heap.size w (w.alloc (celE e)) := (Below.refl _ w).alloc (Nat.le_refl _) _
 have hC := echeck_any e (w.alloc (celE e)) s hz (hs.below hb1).es
 rw [he, errP_zero] at hC
 have HD : Hid (∀ W, Below w.heap.size w W → Calls Tryz.prog 48 #[.pointer (some ⟨x.p, 0, none⟩), agG e.2.1] W fun r w' => r = .returned (errP s (doB b e).2) ∧ IsBk w' B x (doB b e).1 ∧ Off x.all w w') := fun W hb => by
  have := addGoods_any e.2.1 W s B x b (h.below hb) hz.gc (hs.below hb)
  refine this.mono fun r w' ⟨r1, r2, r3⟩ => ?_
  rw [doB_goods he hk]
  by_cases h0 : goodsE b e.2.1 = 0
  ·rw [if_pos h0] at r2 ⊢
   rw [h0] at r1
   exact ⟨r1, r2, (Off.of_below hb).trans r3⟩
  ·rw [if_neg h0] at r2 ⊢
   exact ⟨r1, r2, (Off.of_below hb).trans r3⟩
 obtain ⟨ps, bs, h⟩ := h
 obtain ⟨_, _, _, _, p4, _⟩ := (h.all hb1).cells
 have x1 : (e.1.toList == kGoods.data.toList) = true := same_wordR hk
 obtain ⟨t0, t1, t2, t3, t4, t5, t6, t7, t8, t9, t10, t11, t12, t13⟩ := hE.at
 have HE : Hid (BlkE _ _ _) := hE
 have HB : Hid (Below _ _ _) := hb1
 have HC : Hid (Calls Tryz.prog 47 _ _ _) := hC
 generalize doB b e = D at *
 clear h hz hs he hE hb1 hC hk
 obtain ⟨ak, ⟨agc, agp⟩, ⟨ali, alc, alu, alk⟩, ⟨afz, afr, afb⟩, ⟨atz, atr, atb⟩, an⟩ := e
 unfold agE celE agG at *
 simp only at *
 go_enter Tryz.func13, Tryz.ntmps13
 go_wp2_with (first
  | (go_at_call 47; refine HC.out.mono ?_; rintro r w1 ⟨rfl, hb2⟩; obtain ⟨u0, u1, u2, u3, u4, u5, u6, u7, u8, u9, u10, u11, u12, u13⟩ := (HE.out.below hb2).at; (try simp only at u0 u1 u2 u3 u4 u5 u6 u7 u8 u9 u10 u11 u12 u13); have hb3 : Hid (Below _ _ _) := HB.out.trans (hb2.mono HB.out.size); clear hb2)
  | (go_at_call 48; refine (HD.out _ hb3.out).mono ?_; rintro r w2 ⟨rfl, hr⟩))
 go_ret
 exact ⟨rfl, hr⟩
theorem bdo_lot (w : World) (s : Nat → Addr) (B : Nat) (x : Bl) (b : Bk) (e : En) (h : IsBk w B x b) (hz : SzE e) (hs : Bs w s) (he : entErr e = 0) (hk : e.1 = kLot) :
  Calls Tryz.prog 13 #[.pointer (some ⟨x.p, 0, none⟩), agE e] w fun r w' => r = .returned (errP s (doB b e).2) ∧ IsBk w' B x (doB b e).1 ∧ Off x.all w w' := by
 have hE := BlkE.new w e
 have hb1 : Below w.heap.size w (w.alloc (celE e)) := (Below.refl _ w).alloc (Nat.le_refl _) _
 have hC := echeck_any e (w.alloc (celE e)) s hz (hs.below hb1).es
 rw [he, errP_zero] at hC
 have HD : Hid (∀ W, Below w.heap.size w W → Calls Tryz.prog 49 #[.pointer (some ⟨x.p, 0, none⟩), agQ e.2.2.1] W fun r w' => r = .returned (errP s (doB b e).2) ∧ IsBk w' B x (doB b e).1 ∧ Off x.all w w') := fun W hb => by
  have := addLot_any e.2.2.1 W s B x b (h.below hb) hz.li hz.lc (hs.below hb)
  refine this.mono fun r w' ⟨r1, r2, r3⟩ => ?_
  rw [doB_lot he hk]
  by_cases h0 : lotBE b e.2.2.1 = 0
  ·rw [if_pos h0] at r2 ⊢
   rw [h0] at r1
   exact ⟨r1, r2, (Off.of_below hb).trans r3⟩
  ·rw [if_neg h0] at r2 ⊢
   exact ⟨r1, r2, (Off.of_below hb).trans r3⟩
 obtain ⟨ps, bs, h⟩ := h
 obtain ⟨_, _, _, _, p4, _⟩ := (h.all hb1).cells
 have x0 : (e.1.toList == kGoods.data.toList) = false := other_word (by rw [hk]; decide)
 have x1 : (e.1.toList == kLot.data.toList) = true := same_wordR hk
 obtain ⟨t0, t1, t2, t3, t4, t5, t6, t7, t8, t9, t10, t11, t12, t13⟩ := hE.at
 have HE : Hid (BlkE _ _ _) := hE
 have HB : Hid (Below _ _ _) := hb1
 have HC : Hid (Calls Tryz.prog 47 _ _ _) := hC
 generalize doB b e = D at *
 clear h hz hs he hE hb1 hC hk
 obtain ⟨ak, ⟨agc, agp⟩, ⟨ali, alc, alu, alk⟩, ⟨afz, afr, afb⟩, ⟨atz, atr, atb⟩, an⟩ := e
 unfold agE celE agQ at *
 simp only at *
 go_enter Tryz.func13, Tryz.ntmps13
 go_wp2_with (first
  | (go_at_call 47; refine HC.out.mono ?_; rintro r w1 ⟨rfl, hb2⟩; obtain ⟨u0, u1, u2, u3, u4, u5, u6, u7, u8, u9, u10, u11, u12, u13⟩ := (HE.out.below hb2).at; (try simp only at u0 u1 u2 u3 u4 u5 u6 u7 u8 u9 u10 u11 u12 u13); have hb3 : Hid (Below _ _ _) := HB.out.trans (hb2.mono HB.out.size); clear hb2)
  | (go_at_call 49; refine (HD.out _ hb3.out).mono ?_; rintro r w2 ⟨rfl, hr⟩))
 go_ret
 exact ⟨rfl, hr⟩
theorem bdo_turn (w : World) (s : Nat → Addr) (B : Nat) (x : Bl) (b : Bk) (e : En) (h : IsBk w B x b) (hz : SzE e) (hs : Bs w s) (he : entErr e = 0) (h1 : e.1 ≠ kGoods) (h2 : e.1 ≠ kLot) :
  Calls Tryz.prog 13 #[.pointer (some ⟨x.p, 0, none⟩), agE e] w fun r w' => r = .returned (errP s (doB b e).2) ∧ IsBk w' B x (doB b e).1 ∧ Off x.all w w' := by
 have hE := BlkE.new w e
 have hb1 : Below w.heap.size w (w.alloc (celE e)) := (Below.refl _ w).alloc (Nat.le_refl _) _
 have hC := echeck_any e (w.alloc (celE e)) s hz (hs.below hb1).es
 rw [he, errP_zero] at hC
 have HD : Hid (∀ W, Below w.heap.size w W → Calls Tryz.prog 50 #[.pointer (some ⟨x.p, 0, none⟩), agE e] W fun r w' => r = .returned (errP s (doB b e).2) ∧ IsBk w' B x (doB b e).1 ∧ Off x.all w w') := fun W hb =>
  (turn_any W s B x b e (h.below hb) hz (hs.below hb) he h1 h2).mono fun r w' ⟨r1, r2, r3⟩ => ⟨r1, r2, (Off.of_below hb).trans r3⟩
 obtain ⟨ps, bs, h⟩ := h
 obtain ⟨_, _, _, _, p4, _⟩ := (h.all hb1).cells
 have x0 : (e.1.toList == kGoods.data.toList) = false := other_word h1
 have x1 : (e.1.toList == kLot.data.toList) = false := other_word h2
 obtain ⟨t0, t1, t2, t3, t4, t5, t6, t7, t8, t9, t10, t11, t12, t13⟩ := hE.at
 have HE : Hid (BlkE _ _ _) := hE
 have HB : Hid (Below _ _ _) := hb1
 have HC : Hid (Calls Tryz.prog 47 _ _ _) := hC
 generalize doB b e = D at *
 clear h hz hs he hE hb1 hC h1 h2
 obtain ⟨ak, ⟨agc, agp⟩, ⟨ali, alc, alu, alk⟩, ⟨afz, afr, afb⟩, ⟨atz, atr, atb⟩, an⟩ := e
 unfold agE celE at *
 simp only at *
 go_enter Tryz.func13, Tryz.ntmps13
 go_wp2_with (first
  | (go_at_call 47; refine HC.out.mono ?_; rintro r w1 ⟨rfl, hb2⟩; obtain ⟨u0, u1, u2, u3, u4, u5, u6, u7, u8, u9, u10, u11, u12, u13⟩ := (HE.out.below hb2).at; (try simp only at u0 u1 u2 u3 u4 u5 u6 u7 u8 u9 u10 u11 u12 u13); have hb3 : Hid (Below _ _ _) := HB.out.trans (hb2.mono HB.out.size); clear hb2)
  | (go_at_call 50; refine (HD.out _ hb3.out).mono ?_; rintro r w2 ⟨rfl, hr⟩))
 go_ret
 exact ⟨rfl, hr⟩
theorem bdo_any (w : World) (s : Nat → Addr) (B : Nat) (x : Bl) (b : Bk) (e : En) (h : IsBk w B x b) (hz : SzE e) (hs : Bs w s) :
  Calls Tryz.prog 13 #[.pointer (some ⟨x.p, 0, none⟩), agE e] w fun r w' => r = .returned (errP s (doB b e).2) ∧ IsBk w' B x (doB b e).1 ∧ Off x.all w w' := by
 by_cases he : entErr e = 0
 ·by_cases h1 : e.1 = kGoods
  ·exact bdo_goods w s B x b e h hz hs he h1
  by_cases h2 : e.1 = kLot
  ·exact bdo_lot w s B x b e h hz hs he h2
  exact bdo_turn w s B x b e h hz hs he h1 h2
 ·rw [doB_err he]
  exact bdo_err w s B x b e h hz hs he
theorem Tryz.guardU : Tryz.prog.eqGuardType Tryz.prog.depth 46 = false := by kernel_rfl
theorem eqU_run (x y : Su) (w : World) : (Op.equalIn 10000 46 (.agg #[.int .i64 x.1, .int .i64 x.2.1, .int .i64 x.2.2.1, .int .i64 x.2.2.2]) (.agg #[.int .i64 y.1, .int .i64 y.2.1, .int .i64 y.2.2.1, .int .i64 y.2.2.2])).run Tryz.prog w = .ok (decide (x = y)) w := by
 obtain ⟨a, c, u, k⟩ := x
 obtain ⟨a', c', u', k'⟩ := y
 simp only
 have u3 := Tryz.underlying3
 have a3 := Tryz.isAgg3
 have z3 := Tryz.sizeOf3
 have hS : Tryz.prog.underlying 46 = some (.struct (Tryz.prog.fieldsOf 46)) := by kernel_rfl
 have hp : Tryz.prog.stoodInHeld 46 = false := by kernel_rfl
 rw [show (10000 : Nat) = 9999 + 1 from rfl, run_equalIn_agg w 9999 46 _ _ hS hp]
 simp only [Program.fieldsOf, Tryz.underlying46]
 go_simp
 by_cases h1 : a = a' <;> by_cases h2 : c = c' <;> by_cases h3 : u = u' <;> by_cases h4 : k = k' <;> simp [h1, h2, h3, h4]
def zRye : ByteArray := ⟨#[114, 121, 101]⟩
def zL1 : ByteArray := ⟨#[108, 49]⟩
def zPl : Pl := (⟨#[]⟩, 0, 0)
def stE1 : En := (kGoods, (zRye, 6), zeroLo, zPl, zPl, 0)
def stE2 : En := (kLot, (⟨#[]⟩, 0), (zL1, zRye, 9, 2), zPl, zPl, 0)
def stE3 : En := (kIn, (⟨#[]⟩, 0), (zL1, ⟨#[]⟩, 0, 0), zPl, (⟨#[97]⟩, 1, 1), 7)
def stB1 : Bk := ([((zRye, 6), zeroSu)], [], [])
def stB2 : Bk := ([((zRye, 6), zeroSu)], [((zL1, zRye, 9, 2), 0)], [])
def stB3 : Bk := ([((zRye, 6), (7, 0, 0, 0))], [((zL1, zRye, 9, 2), 0)], [((⟨#[97]⟩, 1, 1), zL1, 7)])
theorem st1 : doB ([], [], []) stE1 = (stB1, 0) := by kernel_rfl
theorem st2 : doB stB1 stE2 = (stB2, 0) := by kernel_rfl
theorem st3 : doB stB2 stE3 = (stB3, 0) := by kernel_rfl
theorem st4 : hasL stB3.2.2 zRye stB3.2.1 = 7 := by decide
theorem st5 : sumsB stB3 zRye = (7, 0, 0, 0) := by decide
theorem stZ1 : SzE stE1 := ⟨by decide, by decide, by decide, by decide, by decide, by decide⟩
theorem stZ2 : SzE stE2 := ⟨by decide, by decide, by decide, by decide, by decide, by decide⟩
theorem stZ3 : SzE stE3 := ⟨by decide, by decide, by decide, by decide, by decide, by decide⟩
theorem started_any (w : World) (s : Nat → Addr) (hs : Bs w s) : Calls Tryz.prog 8 #[] w fun e w' => e = .returned (.bool true) ∧ Below w.heap.size w w' := by
 have HN : Hid (Calls Tryz.prog 18 _ _ _) := bnew_any w
 have key : ∀ (b b' : Bk) (e : En) (x : Bl) (W : World), doB b e = (b', 0) → SzE e → IsBk W w.heap.size x b → Below w.heap.size w W → Calls Tryz.prog 13 #[.pointer (some ⟨x.p, 0, none⟩), agE e] W fun r w' => r = .returned .nilIface ∧ IsBk w' w.heap.size x b' ∧ Below w.heap.size w w' := fun b b' e x W hd hz hI hb =>
  (bdo_any W s w.heap.size x b e hI hz (hs.below hb)).mono fun r w' ⟨r1, r2, r3⟩ => by
   rw [hd] at r1 r2
   exact ⟨r1, r2, hb.trans (r3.below hb.size fun k hk => (hI.low k hk).1)⟩
 have H1 : Hid (∀ x W, IsBk W w.heap.size x ([], [], []) → Below w.heap.size w W → _) := fun x W => key _ _ stE1 x W st1 stZ1
 have H2 : Hid (∀ x W, IsBk W w.heap.size x stB1 → Below w.heap.size w W → _) := fun x W => key _ _ stE2 x W st2 stZ2
 have H3 : Hid (∀ x W, IsBk W w.heap.size x stB2 → Below w.heap.size w W → _) := fun x W => key _ _ stE3 x W st3 stZ3
 have H4 : Hid (∀ x W, IsBk W w.heap.size x stB3 → Calls Tryz.prog 17 #[.pointer (some ⟨x.p, 0, none⟩), .string zRye] W fun e w' => e = .returned (.int .i64 7) ∧ Below W.heap.size W w') := fun x W hI => by
  have := bhas_any zRye W w.heap.size x stB3 hI
  rw [st4] at this
  exact this
 have H5 : Hid (∀ x W, IsBk W w.heap.size x stB3 → Calls Tryz.prog 16 #[.pointer (some ⟨x.p, 0, none⟩), .string zRye] W fun e w' => e = .returned (.agg #[.int .i64 7, .int .i64 0, .int .i64 0, .int .i64 0]) ∧ Below W.heap.size W w') := fun x W hI => by
  have := bsums_any zRye W w.heap.size x stB3 hI (by decide)
  rw [st5] at this
  exact this
 have hq := fun W => eqU_run (7, 0, 0, 0) (7, 0, 0, 0) W
 have hgd := Tryz.guardU
 simp only at hq
 unfold agE stE1 at H1
 unfold agE stE2 at H2
 unfold agE stE3 at H3
 unfold zPl zeroLo at *
 unfold zRye zL1 at *
 simp only at H1 H2 H3
 clear key hs
 go_enter Tryz.func8, Tryz.ntmps8
 go_wp2_with (first
  | (go_at_call 18; refine HN.out.mono ?_; rintro e w1 ⟨x, rfl, hI1, hb1⟩; have HI1 : Hid (IsBk _ _ _ _) := hI1; have HB1 : Hid (Below _ _ _) := hb1; clear hI1 hb1)
  | (go_at_call_of 13 (Value.string ⟨#[103, 111, 111, 100, 115]⟩); refine (H1.out _ _ HI1.out HB1.out).mono ?_; rintro e w2 ⟨rfl, hI2, hb2⟩; have HI2 : Hid (IsBk _ _ _ _) := hI2; have HB2 : Hid (Below _ _ _) := hb2; clear hI2 hb2)
  | (go_at_call_of 13 (Value.string ⟨#[108, 111, 116]⟩); refine (H2.out _ _ HI2.out HB2.out).mono ?_; rintro e w3 ⟨rfl, hI3, hb3⟩; have HI3 : Hid (IsBk _ _ _ _) := hI3; have HB3 : Hid (Below _ _ _) := hb3; clear hI3 hb3)
  | (go_at_call_of 13 (Value.string ⟨#[105, 110]⟩); refine (H3.out _ _ HI3.out HB3.out).mono ?_; rintro e w4 ⟨rfl, hI4, hb4⟩; have HI4 : Hid (IsBk _ _ _ _) := hI4; have HB4 : Hid (Below _ _ _) := hb4; clear hI4 hb4)
  | (go_at_call 17; refine (H4.out _ _ HI4.out).mono ?_; rintro e w5 ⟨rfl, hb5⟩; have HI5 : Hid (IsBk _ _ _ _) := HI4.out.below hb5; have HB5 : Hid (Below _ _ _) := HB4.out.trans (hb5.mono HB4.out.size); clear hb5)
  | (go_at_call 16; refine (H5.out _ _ HI5.out).mono ?_; rintro e w6 ⟨rfl, hb6⟩; have HB6 : Hid (Below _ _ _) := HB5.out.trans (hb6.mono HB5.out.size); clear hb6))
 go_ret
 exact ⟨rfl, HB6.out⟩
end Go.Proofs.YteomomeigbfeoaaGreatDoor
namespace Go.Proofs.YteomomeigbfeoaaGreatDoor
open Go.RowKit Go.Lib Go.Sort
abbrev entUo : (ByteArray × Su) → Ent := entO (fun g : (ByteArray × Su) => g.1) (fun g : (ByteArray × Su) => Value.agg #[(Value.int .i64 g.2.1), (Value.int .i64 g.2.2.1), (Value.int .i64 g.2.2.2.1), (Value.int .i64 g.2.2.2.2)])
section
variable {w : World} {ops : Array Oper} {rest : List Oper} {o : Oper} {a : Act} {Q : Exit → Act → World → Prop}
theorem wpUo_next (hg : o.guard = none) (it : Operand) (hop : o.op = Op.next it false) (b r : Nat) (L : List Ent) (t : List (ByteArray × Su)) (hit : a.eval it = .pointer (some ⟨r, 0, none⟩)) (h : RangeL Tryz.prog 9 w b r L (t.map entUo))
  (hDone : t = [] → wpList Tryz.prog ops Q rest (a.put o.dst (.tuple #[.bool false])) w)
  (hMore : ∀ (xk : ByteArray) (xi : Int) (xo : Int) (xm : Int) (xl : Int) t' w', t.Perm ((xk, xi, xo, xm, xl) :: t') → RangeL Tryz.prog 9 w' b r L (t'.map entUo) → w.grownBy w' (some r) → w'.heap.size = w.heap.size → (Instr.entry (.pointer (some ⟨r, 0, none⟩))).run Tryz.prog w' = .ok (.tuple #[.string xk, .agg #[.int .i64 xi, .int .i64 xo, .int .i64 xm, .int .i64 xl]]) w' →
   wpList Tryz.prog ops Q rest (a.put o.dst (.tuple #[.bool true, .string xk, .agg #[.int .i64 xi, .int .i64 xo, .int .i64 xm, .int .i64 xl]])) w') : wpList Tryz.prog ops Q (o :: rest) a w :=
 wpO_next (fun g : (ByteArray × Su) => g.1) (fun g : (ByteArray × Su) => Value.agg #[(Value.int .i64 g.2.1), (Value.int .i64 g.2.2.1), (Value.int .i64 g.2.2.2.1), (Value.int .i64 g.2.2.2.2)]) hg it hop b r L t hit h hDone fun ⟨xk, xi, xo, xm, xl⟩ t' w' h1 h2 h3 h4 h5 => hMore xk xi xo xm xl t' w' h1 h2 h3 h4 h5
end
theorem askUo_hit {W : World} {b : Nat} {m : List (ByteArray × Su)} (h : MapL Tryz.prog 9 W b (m.map entUo)) {c : ByteArray} {kl : Lit} (hk : keyOf Tryz.prog 9 (.string c) = some kl) {yk : ByteArray} {yi : Int} {yo : Int} {ym : Int} {yl : Int} (hy : findN (fun g : (ByteArray × Su) => g.1) m c = some (yk, yi, yo, ym, yl)) : (Instr.lookup 92 (.map (some b)) (.string c) true).run Tryz.prog W = .ok (.tuple #[.agg #[.int .i64 yi, .int .i64 yo, .int .i64 ym, .int .i64 yl], .bool true]) W :=
 askO_hit (v := (fun g : (ByteArray × Su) => Value.agg #[(Value.int .i64 g.2.1), (Value.int .i64 g.2.2.1), (Value.int .i64 g.2.2.2.1), (Value.int .i64 g.2.2.2.2)])) Tryz.keyedS Tryz.underlying92 h hk hy
theorem askUo_miss {W : World} {b : Nat} {m : List (ByteArray × Su)} (h : MapL Tryz.prog 9 W b (m.map entUo)) {c : ByteArray} {kl : Lit} (hk : keyOf Tryz.prog 9 (.string c) = some kl) (hy : findN (fun g : (ByteArray × Su) => g.1) m c = none) : (Instr.lookup 92 (.map (some b)) (.string c) true).run Tryz.prog W = .ok (.tuple #[.agg #[.int .i64 0, .int .i64 0, .int .i64 0, .int .i64 0], .bool false]) W :=
 askO_miss (v := (fun g : (ByteArray × Su) => Value.agg #[(Value.int .i64 g.2.1), (Value.int .i64 g.2.2.1), (Value.int .i64 g.2.2.2.1), (Value.int .i64 g.2.2.2.2)])) Tryz.keyedS Tryz.underlying92 h hk (Tryz.zeroValue46 W) hy
theorem equalU_any (w : World) (b1 b2 : Nat) (m1 m2 : List (ByteArray × Su)) (h1 : MapL Tryz.prog 9 w b1 (m1.map entUo)) (h2 : MapL Tryz.prog 9 w b2 (m2.map entUo)) (s1 : m1.length ≤ 1000) (s2 : m2.length ≤ 1000) :
  Calls Tryz.prog 52 #[.map (some b1), .map (some b2)] w fun e w' => ∃ r, e = .returned (.bool r) ∧ (r = true ↔ m1.Perm m2) ∧ Below w.heap.size w w' := by
 have HN1 : Hid ((m1.map (fun g : (ByteArray × Su) => g.1)).Nodup) := names_nodup h1
 have HN2 : Hid ((m2.map (fun g : (ByteArray × Su) => g.1)).Nodup) := names_nodup h2
 have HK : Hid (∀ (xk : ByteArray) (xi : Int) (xo : Int) (xm : Int) (xl : Int), (xk, xi, xo, xm, xl) ∈ m1 → ∃ kl, keyOf Tryz.prog 9 (.string xk) = some kl) := fun xk xi xo xm xl hx => h1.keys _ (List.mem_map.2 ⟨_, hx, rfl⟩)
 have H2 : Hid (∀ W, Below w.heap.size w W → MapL Tryz.prog 9 W b2 (m2.map entUo)) := fun W hb => h2.below hb h2.lt
 obtain ⟨l1, hl1⟩ : ∃ l1, (m1.map entUo).length = l1 := ⟨_, rfl⟩
 obtain ⟨l2, hl2⟩ : ∃ l2, (m2.map entUo).length = l2 := ⟨_, rfl⟩
 have q1 : m1.length = l1 := by rw [← hl1]; simp
 have q2 : m2.length = l2 := by rw [← hl2]; simp
 have t1 : l1 ≤ 1000 := by omega
 have t2 : l2 ≤ 1000 := by omega
 clear s1 s2
 go_enter Tryz.func52, Tryz.ntmps52
 by_cases hll : l1 = l2
 ·have HLe : Hid (m1.length = m2.length) := by show _ = _; omega
  subst hll
  clear q1 q2
  go_wp2_with (first
   | (at_len; refine wpL_len rfl _ 92 rfl 9 46 Tryz.underlying92 b1 _ l1 hl1 rfl h1 ?_)
   | (at_len; refine wpL_len rfl _ 92 rfl 9 46 Tryz.underlying92 b2 _ l1 hl2 rfl h2 ?_)
   | (at_range; refine wpL_range rfl _ 92 rfl 9 46 Tryz.underlying92 b1 (m1.map entUo) rfl h1 ?_; intro w0 hrg0 hg0 hs0))
  go_frame
  have hb0 : Below w.heap.size w w0 := ⟨hg0.os, hg0.tape, hg0.output, hg0.size, fun k hk => hg0.block k hk (by simp)⟩
  clear hg0 hs0 h1 h2 hl1 hl2 t1 t2
  go_loopw [] (fun wr => ∃ d t : List (ByteArray × Su), EqS (fun g : (ByteArray × Su) => g.1) m1 m2 d t ∧ RangeL Tryz.prog 9 wr b1 w.heap.size (m1.map entUo) (t.map entUo) ∧ Below w.heap.size w wr) (fun wr => wr.rangeLeft b1 w.heap.size)
  case atStart => exact ⟨[], m1, EqS.start _ _, hrg0, hb0⟩
  case round =>
   obtain ⟨d, t, hE, hrg, hb⟩ := hrel
   have HE : Hid (EqS _ _ _ _ _) := hE
   go_wp2_with (at_next; refine wpUo_next rfl _ rfl b1 w.heap.size _ t rfl hrg ?_ ?_)
   ·intro ht
    subst ht
    go_wp2
    go_ret
    exact ⟨true, rfl, ⟨fun _ => HE.out.done HN1.out HLe.out, fun _ => rfl⟩, hb⟩
   ·intro xk xi xo xm xl t' w1 hp1 hrg1 hg1 hs1 hen
    have hb1 := grown_below hb (Nat.le_refl _) hg1
    have HP : Hid (t.Perm ((xk, xi, xo, xm, xl) :: t')) := hp1
    have HM : Hid (wr.rangeLeft b1 w.heap.size = w1.rangeLeft b1 w.heap.size + 1) := by
     show _ = _
     rw [hrg.left_eq, hrg1.left_eq]
     have := hp1.length_eq
     simpa using this
    obtain ⟨kl, hkl⟩ := HK.out xk xi xo xm xl (hE.perm.mem_iff.1 (List.mem_append.2 (Or.inr (hp1.mem_iff.2 (List.mem_cons_self ..)))))
    have hbN := hb1.alloc hb1.size (.cells #[.int .i64 xi, .int .i64 xo, .int .i64 xm, .int .i64 xl] 46)
    have hbM : Below w1.heap.size w1 (w1.alloc (.cells #[.int .i64 xi, .int .i64 xo, .int .i64 xm, .int .i64 xl] 46)) := (Below.refl _ w1).alloc (Nat.le_refl _) _
    have nN := heap_alloc_new w1 (.cells #[.int .i64 xi, .int .i64 xo, .int .i64 xm, .int .i64 xl] 46)
    obtain ⟨W2, hW2⟩ : ∃ W2, w1.alloc (.cells #[.int .i64 xi, .int .i64 xo, .int .i64 xm, .int .i64 xl] 46) = W2 := ⟨_, rfl⟩
    rw [hW2] at hbN nN hbM
    have hrg2 : RangeL Tryz.prog 9 W2 b1 w.heap.size (m1.map entUo) (t'.map entUo) := hrg1.below hbM hrg1.map.lt hrg1.lt
    have HL2 : Hid (W2.rangeLeft b1 w.heap.size = w1.rangeLeft b1 w.heap.size) := hrg2.left_eq.trans hrg1.left_eq.symm
    cases hfi : findN (fun g : (ByteArray × Su) => g.1) m2 xk with
    | none =>
     obtain ⟨V1, V2, V3, V4, V5, e1, e2, e3, e4, e5, ⟨k1, k2, k3, k4, k5⟩, ⟨k6, k7⟩, ⟨k8, k9⟩, ⟨k10, k11⟩, n5, kb1, kb5⟩ := boxed4 W2 (.int .i64 0) (.int .i64 0) (.int .i64 0) (.int .i64 0) (.int .i64 0) (.int .i64 0) (.int .i64 0) (.int .i64 0) 46
     have hl := askUo_miss (H2.out W2 hbN) hkl hfi
     have HB5 : Hid (Below w.heap.size w V5) := hbN.trans (kb5.mono hbN.size)
     clear hE hp1 hrg hrg1 hg1 hb hb1 hbN hbM nN hrg2 hs1 hkl n5 kb5
     go_wp2_with (at_lookup; refine wpL_ask rfl _ _ 92 rfl b2 _ _ rfl rfl hl ?_)
     go_ret
     exact ⟨false, rfl, ⟨fun e9 => (by cases e9), fun e9 => absurd e9 (HE.out.miss HP.out hfi)⟩, HB5.out⟩
    | some y =>
     obtain ⟨yk, yi, yo, ym, yl⟩ := y
     have kb5 : Below W2.heap.size W2 (W2.alloc (.cells #[.int .i64 yi, .int .i64 yo, .int .i64 ym, .int .i64 yl] 46)) := (Below.refl _ W2).alloc (Nat.le_refl _) _
     have n5 := heap_alloc_new W2 (.cells #[.int .i64 yi, .int .i64 yo, .int .i64 ym, .int .i64 yl] 46)
     obtain ⟨V5, hV5⟩ : ∃ V5, W2.alloc (.cells #[.int .i64 yi, .int .i64 yo, .int .i64 ym, .int .i64 yl] 46) = V5 := ⟨_, rfl⟩
     rw [hV5] at kb5 n5
     have hl := askUo_hit (H2.out W2 hbN) hkl hfi
     have n9 := (kb5.block _ (Array.getElem?_eq_some_iff.1 nN).1).trans nN
     have c0 : V5.cell? ⟨w1.heap.size, 0, none⟩ = some (.int .i64 xi) := by rw [cell_of_heap n9]; rfl
     have c1 : V5.cell? ⟨w1.heap.size, 1, none⟩ = some (.int .i64 xo) := by rw [cell_of_heap n9]; rfl
     have c2 : V5.cell? ⟨w1.heap.size, 2, none⟩ = some (.int .i64 xm) := by rw [cell_of_heap n9]; rfl
     have c3 : V5.cell? ⟨w1.heap.size, 3, none⟩ = some (.int .i64 xl) := by rw [cell_of_heap n9]; rfl
     have d0 : V5.cell? ⟨W2.heap.size, 0, none⟩ = some (.int .i64 yi) := by rw [cell_of_heap n5]; rfl
     have d1 : V5.cell? ⟨W2.heap.size, 1, none⟩ = some (.int .i64 yo) := by rw [cell_of_heap n5]; rfl
     have d2 : V5.cell? ⟨W2.heap.size, 2, none⟩ = some (.int .i64 ym) := by rw [cell_of_heap n5]; rfl
     have d3 : V5.cell? ⟨W2.heap.size, 3, none⟩ = some (.int .i64 yl) := by rw [cell_of_heap n5]; rfl
     have HB5 : Hid (Below w.heap.size w V5) := hbN.trans (kb5.mono hbN.size)
     have HR5 : Hid (RangeL Tryz.prog 9 V5 b1 w.heap.size (m1.map entUo) (t'.map entUo)) := hrg2.below kb5 hrg2.map.lt hrg2.lt
     have HLL : Hid (V5.rangeLeft b1 w.heap.size = W2.rangeLeft b1 w.heap.size) := HR5.out.left_eq.trans hrg2.left_eq.symm
     have hq := fun W => eqU_run (xi, xo, xm, xl) (yi, yo, ym, yl) W
     have hgd := Tryz.guardU
     clear hE hp1 hrg hrg1 hg1 hb hb1 hbN hbM nN hrg2 hs1 hkl n5 n9 kb5
     simp only at hq
     by_cases hxy : (xi, xo, xm, xl) = (yi, yo, ym, yl)
     ·have hdec : decide ((xi, xo, xm, xl) = (yi, yo, ym, yl)) = true := decide_eq_true hxy
      rw [hdec] at hq
      have HS : Hid (EqS _ m1 m2 (d ++ [(xk, xi, xo, xm, xl)]) t') := HE.out.step HP.out (by rw [hfi]; exact congrArg some (by have hk : yk = xk := (findN_mem hfi).2; rw [hk, hxy] : ((xk, xi, xo, xm, xl) : ByteArray × Su) = (yk, yi, yo, ym, yl)).symm)
      clear hdec
      go_wp2_with (at_lookup; refine wpL_ask rfl _ _ 92 rfl b2 _ _ rfl rfl hl ?_)
      go_roundw
      case rel => exact ⟨_, t', HS.out, HR5.out, HB5.out⟩
      case measure => show World.rangeLeft _ _ _ < _; rw [HM.out, ← HL2.out, HLL.out]; exact Nat.lt_succ_self _
     ·have hdec : decide ((xi, xo, xm, xl) = (yi, yo, ym, yl)) = false := decide_eq_false hxy
      rw [hdec] at hq
      clear hdec
      go_wp2_with (at_lookup; refine wpL_ask rfl _ _ 92 rfl b2 _ _ rfl rfl hl ?_)
      go_ret
      exact ⟨false, rfl, ⟨fun e9 => (by cases e9), fun e9 => absurd e9 (HE.out.other HP.out HN2.out hfi (fun e9 => hxy (congrArg Prod.snd e9)))⟩, HB5.out⟩
 ·have HLe : Hid (¬ m1.Perm m2) := fun e9 => hll (by have := e9.length_eq; omega)
  have hll' : (l1 : Int) ≠ (l2 : Int) := by omega
  clear q1 q2
  go_wp2_with (first
   | (at_len; refine wpL_len rfl _ 92 rfl 9 46 Tryz.underlying92 b1 _ l1 hl1 rfl h1 ?_)
   | (at_len; refine wpL_len rfl _ 92 rfl 9 46 Tryz.underlying92 b2 _ l2 hl2 rfl h2 ?_))
  go_ret
  exact ⟨false, rfl, ⟨fun e9 => (by cases e9), fun e9 => absurd e9 HLe.out⟩, Below.refl _ _⟩
end Go.Proofs.YteomomeigbfeoaaGreatDoor
namespace Go.Proofs.YteomomeigbfeoaaGreatDoor
open Go.RowKit Go.Lib Go.Sort
theorem replay_any (pp : Option Addr) (l : List En) (cap : Nat) (w : World) (s : Nat → Addr) (hs : Bs w s) (hz : ∀ e ∈ l, SzE e) (hr : l = [] ∨ ∃ bq off, pp = some ⟨bq, off, none⟩ ∧ Ents w bq off l) (h100 : l.length ≤ 1000) :
  Calls Tryz.prog 28 #[.slice pp l.length cap] w fun r w' => ((∀ j, j < l.length → errAt l j = 0) ∧ (∃ x : Bl, r = .returned (.tuple #[.pointer (some ⟨x.p, 0, none⟩), .nilIface]) ∧ IsBk w' w.heap.size x (bkTo l l.length)) ∨ ∃ k, k < l.length ∧ (∀ j, j < k → errAt l j = 0) ∧ errAt l k ≠ 0 ∧ ∃ f, r = .returned (.tuple #[.pointer none, .iface 126 (.pointer (some ⟨f, 0, none⟩))]) ∧ w'.cell? ⟨f, 0, none⟩ = some (.int .i64 k) ∧ w'.cell? ⟨f, 1, none⟩ = some (err (s (errAt l k - 1)))) ∧ Below w.heap.size w w' := by
 have HN : Hid (Calls Tryz.prog 18 _ _ _) := bnew_any w
 have HZ : Hid (∀ e ∈ l, SzE e) := hz
 have HS : Hid (∀ W, Below w.heap.size w W → Bs W s) := fun W hb => hs.below hb
 have HR : Hid (∀ W k e, l[k]? = some e → Below w.heap.size w W → ∃ bq off, pp = some ⟨bq, off, none⟩ ∧ EntO W bq (off + k * 14) e) := fun W k e he hb => by
  rcases hr with rfl | ⟨bq, off, h1, h2⟩
  ·simp at he
  ·exact ⟨bq, off, h1, (h2.below h2.lt hb).at_ k e he⟩
 obtain ⟨ln, hln⟩ : ∃ ln, l.length = ln := ⟨_, rfl⟩
 have HL : Hid (ln = l.length) := hln.symm
 rw [hln] at h100 ⊢
 clear hs hz hr hln
 go_enter Tryz.func28, Tryz.ntmps28
 go_wp2_with (go_at_call 18; refine HN.out.mono ?_; rintro r w1 ⟨x, rfl, hI, hb1⟩; have HI : Hid (IsBk _ _ _ _) := hI; have HB1 : Hid (Below _ _ _) := hb1; clear hI hb1)
 go_loopw [11] (fun i wr => ∃ k : Nat, k ≤ ln ∧ i = .int .i64 k ∧ (∀ j, j < k → errAt l j = 0) ∧ IsBk wr w.heap.size x (bkTo l k) ∧ Below w.heap.size w wr) (fun i _ => ln - (RowKit.intOf i).toNat)
 case atStart => exact ⟨0, Nat.zero_le _, rfl, fun j hj => absurd hj (Nat.not_lt_zero _), HI.out, HB1.out⟩
 case round =>
  obtain ⟨k, hk, rfl, hno, hI, hb⟩ := hrel
  have HNo : Hid (∀ j, j < k → errAt l j = 0) := hno
  have HIk : Hid (IsBk _ _ _ _) := hI
  have HBk : Hid (Below w.heap.size w wr) := hb
  clear hno
  by_cases hlt : k < ln
  ·have hkm : k < l.length := by rw [← HL.out]; exact hlt
   obtain ⟨e, he⟩ : ∃ e, l[k]? = some e := ⟨_, List.getElem?_eq_getElem hkm⟩
   have hze := HZ.out e (List.mem_of_getElem? he)
   obtain ⟨bq, off, rfl, hE⟩ := HR.out wr k e he hb
   have hE3 := BlkE.new wr e
   have hb3 : Below wr.heap.size wr (wr.alloc (celE e)) := (Below.refl _ wr).alloc (Nat.le_refl _) _
   obtain ⟨W3, hW3⟩ : ∃ W3, wr.alloc (celE e) = W3 := ⟨_, rfl⟩
   rw [hW3] at hE3 hb3
   have hbW := hb.trans (hb3.mono hb.size)
   have HD : Hid (Calls Tryz.prog 13 #[.pointer (some ⟨x.p, 0, none⟩), agE e] W3 fun r w' => r = .returned (errP s (errAt l k)) ∧ IsBk w' w.heap.size x (bkTo l (k + 1)) ∧ Below w.heap.size w w') := (bdo_any W3 s w.heap.size x (bkTo l k) e (hI.below hb3) hze (HS.out _ hbW)).mono fun r w' ⟨r1, r2, r3⟩ =>
    ⟨by rw [errAt_eq he]; exact r1, by rw [bkTo_succ he]; exact r2, hbW.trans (r3.below hbW.size fun j hj => ((hI.below hb3).low j hj).1)⟩
   obtain ⟨c0, c1, c2, c3, c4, c5, c6, c7, c8, c9, c10, c11, c12, c13⟩ := hE
   obtain ⟨t0, t1, t2, t3, t4, t5, t6, t7, t8, t9, t10, t11, t12, t13⟩ := hE3.at
   clear hze hkm he hI hb hE3 hb3 hbW
   obtain ⟨ak, ⟨agc, agp⟩, ⟨ali, alc, alu, alk⟩, ⟨afz, afr, afb⟩, ⟨atz, atr, atb⟩, an⟩ := e
   unfold agE at HD
   unfold celE at hW3
   simp only at c0 c1 c2 c3 c4 c5 c6 c7 c8 c9 c10 c11 c12 c13 t0 t1 t2 t3 t4 t5 t6 t7 t8 t9 t10 t11 t12 t13 HD hW3
   by_cases hC : errAt l k = 0
   ·rw [hC] at HD
    simp only [errP_zero] at HD
    have HC : Hid (errAt l k = 0) := hC
    clear hC
    go_wp2_with (go_at_call 13; refine HD.out.mono ?_; rintro r w5 ⟨rfl, hI5, hB5⟩; have HI5 : Hid (IsBk _ _ _ _) := hI5; have HB5 : Hid (Below _ _ _) := hB5; clear hI5 hB5)
    go_roundw
    case rel => exact ⟨k + 1, by omega, by go_num, fun j hj => by
     rcases Nat.lt_or_ge j k with h | h
     ·exact HNo.out j h
     ·obtain rfl : j = k := by omega
      exact HC.out, HI5.out, HB5.out⟩
    case measure => simp [RowKit.intOf]; omega
   ·simp only [errP_pos s hC] at HD
    have HC : Hid (errAt l k ≠ 0) := hC
    obtain ⟨ad, had⟩ : ∃ ad, s (errAt l k - 1) = ad := ⟨_, rfl⟩
    rw [had] at HD
    have HAd : Hid (s (errAt l k - 1) = ad) := had
    clear hC had
    go_wp2_with (go_at_call 13; refine HD.out.mono ?_; rintro r w5 ⟨rfl, hI5, hB5⟩; have HB5 : Hid (Below _ _ _) := hB5; clear hI5 hB5)
    refine bodyPost_ret (v := .tuple #[.pointer none, .iface 126 (.pointer (some ⟨w5.heap.size, 0, none⟩))]) (by simp [results, Tryz.results28, go_sem]) rfl ⟨Or.inr ⟨k, by omega, HNo.out, HC.out, w5.heap.size, rfl, ?_, ?_⟩, ?_⟩
    ·rw [World.cell?_alloc_at _ _ _ _ rfl]; rfl
    ·rw [World.cell?_alloc_at _ _ _ _ rfl, HAd.out]; rfl
    ·exact HB5.out.alloc HB5.out.size _
  ·have hkn : k = ln := by omega
   subst hkn
   go_wp2
   exact bodyPost_ret (v := .tuple #[.pointer (some ⟨x.p, 0, none⟩), .nilIface]) (by simp [results, Tryz.results28, go_sem]) rfl ⟨Or.inl ⟨HNo.out, x, rfl, HIk.out⟩, HBk.out⟩
theorem faulted2_of (v : Value) (c n : Int) (w : World) (hc : 0 < c) (hv : ∀ w1, Below w.heap.size w w1 → Calls Tryz.prog 67 #[v] w1 fun e w' => e = .returned (.tuple #[.int .i64 c, .int .i64 n]) ∧ Below w1.heap.size w1 w') :
  Calls Tryz.prog 30 #[v, .agg #[.int .i64 c, .int .i64 n]] w fun e w' => e = .returned (.bool true) ∧ Below w.heap.size w w' := by
 have hB : Below w.heap.size w (w.alloc (.cells #[.int .i64 c, .int .i64 n] 62)) := (Below.refl _ w).alloc (Nat.le_refl _) _
 have hC := hv _ hB
 have h0 : (c == 0) = false := by simp; omega
 have k0 : (w.alloc (.cells #[.int .i64 c, .int .i64 n] 62)).cell? ⟨w.heap.size, 0, none⟩ = some (.int .i64 c) := by rw [World.cell?_alloc_at _ _ _ _ rfl]; rfl
 have k1 : (w.alloc (.cells #[.int .i64 c, .int .i64 n] 62)).cell? ⟨w.heap.size, 1, none⟩ = some (.int .i64 n) := by rw [World.cell?_alloc_at _ _ _ _ rfl]; rfl
 have HC : Hid (Calls Tryz.prog 67 _ _ _) := hC
 have HB : Hid (Below _ _ _) := hB
 clear hC hv hB
 go_enter Tryz.func30, Tryz.ntmps30
 go_wp2_with (go_at_call 67; refine HC.out.mono ?_; rintro e w1 ⟨rfl, hb1⟩; have j0 := (hb1.cell (p := ⟨w.heap.size, 0, none⟩) (cell_lt k0)).trans k0; have j1 := (hb1.cell (p := ⟨w.heap.size, 1, none⟩) (cell_lt k1)).trans k1)
 go_ret
 exact ⟨rfl, HB.out.trans (hb1.mono HB.out.size)⟩
abbrev He := ByteArray × Int
abbrev entHo : He → Ent := entO (fun g : He => g.1) (fun g : He => Value.int .i64 g.2)
theorem askHo_hit {W : World} {b : Nat} {m : List He} (h : MapL Tryz.prog 9 W b (m.map entHo)) {c : ByteArray} {kl : Lit} (hk : keyOf Tryz.prog 9 (.string c) = some kl) {ya : ByteArray} {yp : Int} (hy : findN (fun g : He => g.1) m c = some (ya, yp)) : (Instr.lookup 94 (.map (some b)) (.string c) true).run Tryz.prog W = .ok (.tuple #[.int .i64 yp, .bool true]) W :=
 askO_hit (v := (fun g : He => Value.int .i64 g.2)) Tryz.keyedS Tryz.underlying94 h hk hy
theorem askHo_miss {W : World} {b : Nat} {m : List He} (h : MapL Tryz.prog 9 W b (m.map entHo)) {c : ByteArray} {kl : Lit} (hk : keyOf Tryz.prog 9 (.string c) = some kl) (hy : findN (fun g : He => g.1) m c = none) : (Instr.lookup 94 (.map (some b)) (.string c) true).run Tryz.prog W = .ok (.tuple #[.int .i64 0, .bool false]) W :=
 askO_miss (v := (fun g : He => Value.int .i64 g.2)) Tryz.keyedS Tryz.underlying94 h hk (Tryz.zeroValue3 W) hy
theorem equalH_any (w : World) (b1 b2 : Nat) (m1 m2 : List He) (h1 : MapL Tryz.prog 9 w b1 (m1.map entHo)) (h2 : MapL Tryz.prog 9 w b2 (m2.map entHo)) (s1 : m1.length ≤ 1000) (s2 : m2.length ≤ 1000) :
  Calls Tryz.prog 54 #[.map (some b1), .map (some b2)] w fun e w' => ∃ r, e = .returned (.bool r) ∧ (r = true ↔ m1.Perm m2) ∧ Below w.heap.size w w' := by
 have HN1 : Hid ((m1.map (fun g : He => g.1)).Nodup) := names_nodup h1
 have HN2 : Hid ((m2.map (fun g : He => g.1)).Nodup) := names_nodup h2
 have HK : Hid (∀ (xa : ByteArray) (xp : Int), (xa, xp) ∈ m1 → ∃ kl, keyOf Tryz.prog 9 (.string xa) = some kl) := fun xa xp hx => h1.keys _ (List.mem_map.2 ⟨_, hx, rfl⟩)
 have H2 : Hid (∀ W, Below w.heap.size w W → MapL Tryz.prog 9 W b2 (m2.map entHo)) := fun W hb => h2.below hb h2.lt
 obtain ⟨l1, hl1⟩ : ∃ l1, (m1.map entHo).length = l1 := ⟨_, rfl⟩
 obtain ⟨l2, hl2⟩ : ∃ l2, (m2.map entHo).length = l2 := ⟨_, rfl⟩
 have q1 : m1.length = l1 := by rw [← hl1]; simp
 have q2 : m2.length = l2 := by rw [← hl2]; simp
 have t1 : l1 ≤ 1000 := by omega
 have t2 : l2 ≤ 1000 := by omega
 clear s1 s2
 go_enter Tryz.func54, Tryz.ntmps54
 by_cases hll : l1 = l2
 ·have HLe : Hid (m1.length = m2.length) := by show _ = _; omega
  subst hll
  clear q1 q2
  go_wp2_with (first
   | (at_len; refine wpL_len rfl _ 94 rfl 9 3 Tryz.underlying94 b1 _ l1 hl1 rfl h1 ?_)
   | (at_len; refine wpL_len rfl _ 94 rfl 9 3 Tryz.underlying94 b2 _ l1 hl2 rfl h2 ?_)
   | (at_range; refine wpL_range rfl _ 94 rfl 9 3 Tryz.underlying94 b1 (m1.map entHo) rfl h1 ?_; intro w0 hrg0 hg0 hs0))
  go_frame
  have hb0 : Below w.heap.size w w0 := ⟨hg0.os, hg0.tape, hg0.output, hg0.size, fun k hk => hg0.block k hk (by simp)⟩
  clear hg0 hs0 h1 h2 hl1 hl2 t1 t2
  go_loopw [] (fun wr => ∃ d t : List He, EqS (fun g : He => g.1) m1 m2 d t ∧ RangeL Tryz.prog 9 wr b1 w.heap.size (m1.map entHo) (t.map entHo) ∧ Below w.heap.size w wr) (fun wr => wr.rangeLeft b1 w.heap.size)
  case atStart => exact ⟨[], m1, EqS.start _ _, hrg0, hb0⟩
  case round =>
   obtain ⟨d, t, hE, hrg, hb⟩ := hrel
   have HE : Hid (EqS _ _ _ _ _) := hE
   go_wp2_with (at_next; refine wpO_next (fun g : He => g.1) (fun g : He => Value.int .i64 g.2) rfl _ rfl b1 w.heap.size _ t rfl hrg ?_ ?_)
   ·intro ht
    subst ht
    go_wp2
    go_ret
    exact ⟨true, rfl, ⟨fun _ => HE.out.done HN1.out HLe.out, fun _ => rfl⟩, hb⟩
   ·intro xa xp t' w1 hp1 hrg1 hg1 hs1 hen
    have hb1 := grown_below hb (Nat.le_refl _) hg1
    have HP : Hid (t.Perm ((xa, xp) :: t')) := hp1
    have HM : Hid (wr.rangeLeft b1 w.heap.size = w1.rangeLeft b1 w.heap.size + 1) := by
     show _ = _
     rw [hrg.left_eq, hrg1.left_eq]
     have := hp1.length_eq
     simpa using this
    obtain ⟨kl, hkl⟩ := HK.out xa xp (hE.perm.mem_iff.1 (List.mem_append.2 (Or.inr (hp1.mem_iff.2 (List.mem_cons_self ..)))))
    have HB1 : Hid (Below w.heap.size w w1) := hb1
    have HR1 : Hid (RangeL Tryz.prog 9 w1 b1 w.heap.size (m1.map entHo) (t'.map entHo)) := hrg1
    cases hfi : findN (fun g : He => g.1) m2 xa with
    | none =>
     have hl := askHo_miss (H2.out w1 hb1) hkl hfi
     clear hE hp1 hrg hrg1 hg1 hb hb1 hs1 hkl
     go_wp2_with (at_lookup; refine wpL_ask rfl _ _ 94 rfl b2 _ _ rfl rfl hl ?_)
     go_ret
     exact ⟨false, rfl, ⟨fun e9 => (by cases e9), fun e9 => absurd e9 (HE.out.miss HP.out hfi)⟩, HB1.out⟩
    | some y =>
     obtain ⟨ya, yp⟩ := y
     have hl := askHo_hit (H2.out w1 hb1) hkl hfi
     have hya : ya = xa := (findN_mem hfi).2
     clear hE hp1 hrg hrg1 hg1 hb hb1 hs1 hkl
     by_cases hxy : xp = yp
     ·have HS : Hid (EqS _ m1 m2 (d ++ [(xa, xp)]) t') := HE.out.step HP.out (by rw [hfi, hya, hxy])
      have hd : (xp != yp) = false := by simp [hxy]
      go_wp2_with (at_lookup; refine wpL_ask rfl _ _ 94 rfl b2 _ _ rfl rfl hl ?_)
      go_roundw
      case rel => exact ⟨_, t', HS.out, HR1.out, HB1.out⟩
      case measure => show World.rangeLeft _ _ _ < _; rw [HM.out]; exact Nat.lt_succ_self _
     ·have hd : (xp != yp) = true := by simp [hxy]
      go_wp2_with (at_lookup; refine wpL_ask rfl _ _ 94 rfl b2 _ _ rfl rfl hl ?_)
      go_ret
      exact ⟨false, rfl, ⟨fun e9 => (by cases e9), fun e9 => absurd e9 (HE.out.other HP.out HN2.out hfi (fun e9 => hxy (congrArg Prod.snd e9)))⟩, HB1.out⟩
 ·have HLe : Hid (¬ m1.Perm m2) := fun e9 => hll (by have := e9.length_eq; omega)
  have hll' : (l1 : Int) ≠ (l2 : Int) := by omega
  clear q1 q2
  go_wp2_with (first
   | (at_len; refine wpL_len rfl _ 94 rfl 9 3 Tryz.underlying94 b1 _ l1 hl1 rfl h1 ?_)
   | (at_len; refine wpL_len rfl _ 94 rfl 9 3 Tryz.underlying94 b2 _ l2 hl2 rfl h2 ?_))
  go_ret
  exact ⟨false, rfl, ⟨fun e9 => (by cases e9), fun e9 => absurd e9 HLe.out⟩, Below.refl _ _⟩
end Go.Proofs.YteomomeigbfeoaaGreatDoor
