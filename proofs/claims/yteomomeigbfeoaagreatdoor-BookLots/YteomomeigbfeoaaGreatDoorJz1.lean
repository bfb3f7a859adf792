/-
 A map's block as a list of entries in no order: what a look-up, a store, a deletion, len and a range find and leave; over whatever program; no condition but tha
-/
import Derived.Maps.RangeWalk
import Derived.WideKeyEntry
import Derived.WalkKit
import Derived.Lib.ItoaNum
import Derived.Lib.IndexLaws
import Derived.Test.YteomomeigbfeoaaGreatDoorProg
import Derived.Test.YteomomeigbfeoaaGreatDoorShelf
import Derived.BigQuiet
import Derived.WalkSmall
import Derived.Below
import Derived.Lib.LaidTab
import Derived.Sort.LotA
import Derived.Lib.Small
import Derived.OwnWalk
import Derived.Deep.AppendLies
import Derived.Test.YteomomeigbfeoaaGreatDoorErrs
import Derived.Test.YteomomeigbfeoaaGreatDoorRows
import Derived.LaidLaws
import Derived.LaidHandle
import Derived.Stop.LaidErr
set_option maxRecDepth 100000
set_option maxHeartbeats 16000000
namespace Go.Proofs.YteomomeigbfeoaaGreatDoor
open Go.RowKit (Below)
open Go.MapKept Go.ChangeMaps
open Go.Maps (Keyed)
abbrev Ent := Value × Value
def ents (es : Array MapEntry) : List Ent := es.toList.map fun x => (x.key, x.val)
def MapL (P : Program) (k : TypeId) (w : World) (b : Nat) (L : List Ent) : Prop :=
 ∃ es clock, w.heap[b]? = some (.map es clock) ∧ Stamped es clock ∧ (∀ x ∈ es.toList, ∃ l, keyOf P k x.key = some l) ∧ (ents es).Perm L
def RangeL (P : Program) (k : TypeId) (w : World) (b r : Nat) (L T : List Ent) : Prop :=
 ∃ es clock since seen c0, w.heap[b]? = some (.map es clock) ∧ Stamped es clock ∧ (∀ x ∈ es.toList, ∃ l, keyOf P k x.key = some l) ∧ (ents es).Perm L ∧
  w.heap[r]? = some (.mapIter (some b) since seen c0) ∧ (∀ x ∈ es.toList, x.born < since) ∧ (ents (leftOf es seen)).Perm T ∧ since ≤ c0 ∧ since ≤ clock
variable {P : Program} {k : TypeId} {w : World} {b r : Nat} {L T : List Ent}
theorem MapL.perm (h : MapL P k w b L) {L' : List Ent} (hp : L.Perm L') : MapL P k w b L' := by
 obtain ⟨es, clock, hb, hs, hk, hL⟩ := h
 exact ⟨es, clock, hb, hs, hk, hL.trans hp⟩
theorem MapL.lt (h : MapL P k w b L) : b < w.heap.size := by
 obtain ⟨es, clock, hb, _⟩ := h
 exact (Array.getElem?_eq_some_iff.1 hb).1
theorem MapL.of_block (h : MapL P k w b L) {w' : World} (he : w'.heap[b]? = w.heap[b]?) : MapL P k w' b L := by
 obtain ⟨es, clock, hb, rest⟩ := h
 exact ⟨es, clock, he.trans hb, rest⟩
theorem MapL.kept (h : MapL P k w b L) {w' : World} {row : Option Nat} (hg : w.grownBy w' row) (hne : some b ≠ row) : MapL P k w' b L := h.of_block (hg.block b h.lt hne)
theorem MapL.below (h : MapL P k w b L) {w' : World} {B : Nat} (hb : Below B w w') (hB : b < B) : MapL P k w' b L := h.of_block (hb.block b hB)
theorem MapL.made (P : Program) (k : TypeId) (w : World) : MapL P k (w.alloc (.map #[] 0)) w.heap.size [] :=
 ⟨#[], 0, Go.heap_alloc_new w _, stamped_empty 0, by simp, by simp [ents]⟩
theorem MapL.nodup (h : MapL P k w b L) : (L.map (·.1)).Nodup := by
 obtain ⟨es, clock, hb, hs, hk, hL⟩ := h
 refine (hL.map _).nodup_iff.1 ?_
 simpa [ents, Function.comp_def] using hs.2.2
theorem MapL.keys (h : MapL P k w b L) : ∀ x ∈ L, ∃ l, keyOf P k x.1 = some l := by
 obtain ⟨es, clock, hb, hs, hk, hL⟩ := h
 intro x hx
 obtain ⟨y, hy, rfl⟩ := List.mem_map.1 (hL.mem_iff.2 hx)
 exact hk y hy
theorem MapL.size_eq (h : MapL P k w b L) {es : Array MapEntry} {clock : Nat} (hb : w.heap[b]? = some (.map es clock)) : es.size = L.length := by
 obtain ⟨es', clock', hb', hs, hk, hL⟩ := h
 rw [hb] at hb'
 cases hb'
 have := hL.length_eq
 simpa [ents] using this
theorem MapL.ne_of_cells (h : MapL P k w b L) {p : Addr} {v : Value} (hc : w.cell? p = some v) : p.block ≠ b := by
 obtain ⟨es, clock, hb, _⟩ := h
 intro e
 subst e
 simp [World.cell?, hb] at hc
theorem turned_block {w w' : World} {b q : Nat} (h : w.mapTurned w' b) (hq : q ≠ b) : w'.heap[q]? = w.heap[q]? := by
 obtain ⟨es, clock, es', clock', hb, rfl⟩ := h
 exact heap_setBlock_other hb _ hq
theorem turned_cell {w w' : World} {b : Nat} {p : Addr} (h : w.mapTurned w' b) (hq : p.block ≠ b) : w'.cell? p = w.cell? p := World.cell?_of_block (turned_block h hq)
theorem turned_size {w w' : World} {b : Nat} (h : w.mapTurned w' b) : w'.heap.size = w.heap.size := by
 obtain ⟨es, clock, es', clock', hb, rfl⟩ := h
 simp [setBlock]
section
variable {t e : TypeId} (K : Keyed P k) (ht : P.underlying t = some (.map k e)) {key : Value} {kl : Lit} (hkey : keyOf P k key = some kl)
include K ht hkey
theorem MapL.look_hit (h : MapL P k w b L) {v : Value} (hm : (key, v) ∈ L) : (Instr.lookup t (.map (some b)) key false).run P w = .ok v w := by
 obtain ⟨es, clock, hb, hs, hk, hL⟩ := h
 obtain ⟨y, hy, ey⟩ := List.mem_map.1 (hL.mem_iff.2 hm)
 cases ey
 rcases K.find w hkey es.toList hk with ⟨f1, f2⟩ | ⟨j, e0, f1, f2, f3⟩
 ·exact absurd rfl (f2 y hy)
 ·have : e0 = y := entry_eq_of_key ((stamped_iff es clock).1 hs).2.2 (List.mem_of_getElem? f2) hy f3
  subst this
  simp [Instr.lookup, run_underlying ht, MapKept.run_getObj_map hb, K.check w _ hkey, f1, Result.andThen]
theorem MapL.look_miss (h : MapL P k w b L) {z : Value} (hz : (zeroValue e).run P w = .ok z w) (hm : ∀ v, (key, v) ∉ L) : (Instr.lookup t (.map (some b)) key false).run P w = .ok z w := by
 obtain ⟨es, clock, hb, hs, hk, hL⟩ := h
 rcases K.find w hkey es.toList hk with ⟨f1, f2⟩ | ⟨j, e0, f1, f2, f3⟩
 ·simp [Instr.lookup, run_underlying ht, MapKept.run_getObj_map hb, K.check w _ hkey, f1, hz, Result.andThen]
 ·exact absurd (hL.mem_iff.1 (List.mem_map.2 ⟨e0, List.mem_of_getElem? f2, by rw [f3]⟩)) (hm e0.val)
theorem MapL.store_old (h : MapL P k w b L) (v : Value) {u : Value} {L0 : List Ent} (hm : L.Perm ((key, u) :: L0)) : ∃ w', (Instr.mapUpdate t (.map (some b)) key v).run P w = .ok () w' ∧ MapL P k w' b ((key, v) :: L0) ∧ w.mapTurned w' b := by
 obtain ⟨es, clock, hb, hs, hk, hL⟩ := h
 obtain ⟨y, hy, ey⟩ := List.mem_map.1 ((hL.trans hm).mem_iff.2 (List.mem_cons_self ..))
 cases ey
 rcases K.find w hkey es.toList hk with ⟨f1, f2⟩ | ⟨j, e0, f1, f2, f3⟩
 ·exact absurd rfl (f2 y hy)
 ·obtain rfl : e0 = y := entry_eq_of_key ((stamped_iff es clock).1 hs).2.2 (List.mem_of_getElem? f2) hy f3
  have hj : es[j]? = some e0 := by simpa using f2
  have hjl : j < es.toList.length := (List.getElem?_eq_some_iff.1 f2).1
  have hlist : (es.modify j (fun e' => { e' with key := e0.key, val := v })).toList = es.toList.set j { e0 with key := e0.key, val := v } := by rw [Array.toList_modify, modify_eq_set _ _ _ _ f2]
  refine ⟨setBlock w b (.map (es.modify j (fun e' => { e' with key := e0.key, val := v })) clock), ?_, ⟨_, _, heap_setBlock_same hb _, stamped_modify hs _ _ (fun _ _ => rfl) (fun e' _ he' => by rw [hj] at he'; cases he'; rfl), ?_, ?_⟩, ⟨es, clock, _, _, hb, rfl⟩⟩
  ·simp [Instr.mapUpdate, run_underlying ht, MapKept.run_getObj_map hb, K.check w false hkey, f1, hj, K.stays w hkey, MapKept.run_setObj_map _ hb, Result.andThen, setBlock]
  ·intro x hx
   rw [hlist] at hx
   rcases List.mem_or_eq_of_mem_set hx with h | rfl
   ·exact hk x h
   ·exact ⟨_, hkey⟩
  ·unfold ents
   rw [hlist, List.map_set]
   refine (set_perm _ _ (by simpa using hjl) _).trans (List.Perm.cons _ ?_)
   have h1 : (ents es).Perm ((e0.key, e0.val) :: (ents es).eraseIdx j) := by
    have hget : (ents es)[j]? = some (e0.key, e0.val) := by unfold ents; rw [List.getElem?_map, f2]; rfl
    obtain ⟨hlt, hget'⟩ := List.getElem?_eq_some_iff.1 hget
    have := set_perm (ents es) j hlt (e0.key, e0.val)
    rwa [← hget', List.set_getElem_self, hget'] at this
   exact (h1.symm.trans (hL.trans hm)).cons_inv
theorem MapL.drop (h : MapL P k w b L) {u : Value} {L0 : List Ent} (hm : L.Perm ((key, u) :: L0)) : ∃ w', (∀ ty, (Builtin.delete_ #[t, k] ty #[.map (some b), key]).run P w = .ok (.tuple #[]) w') ∧ MapL P k w' b L0 ∧ w.mapTurned w' b := by
 obtain ⟨es, clock, hb, hs, hk, hL⟩ := h
 obtain ⟨y, hy, ey⟩ := List.mem_map.1 ((hL.trans hm).mem_iff.2 (List.mem_cons_self ..))
 cases ey
 rcases K.find w hkey es.toList hk with ⟨f1, f2⟩ | ⟨j, e0, f1, f2, f3⟩
 ·exact absurd rfl (f2 y hy)
 ·obtain rfl : e0 = y := entry_eq_of_key ((stamped_iff es clock).1 hs).2.2 (List.mem_of_getElem? f2) hy f3
  have hjl : j < es.toList.length := (List.getElem?_eq_some_iff.1 f2).1
  have hjs : j < es.size := by simpa using hjl
  have hsub : (es.eraseIdxIfInBounds j).toList = es.toList.eraseIdx j := by
   unfold Array.eraseIdxIfInBounds
   rw [dif_pos hjs]
   simp
  refine ⟨setBlock w b (.map (es.eraseIdxIfInBounds j) clock), ?_, ⟨_, _, heap_setBlock_same hb _, stamped_erase hs j, ?_, ?_⟩, ⟨es, clock, _, _, hb, rfl⟩⟩
  ·intro ty
   simp [Builtin.delete_, run_underlying ht, MapKept.run_getObj_map hb, K.check w _ hkey, f1, MapKept.run_setObj_map _ hb, Result.andThen, setBlock]
  ·intro x hx
   rw [hsub] at hx
   exact hk x ((List.eraseIdx_sublist _ _).subset hx)
  ·unfold ents
   rw [hsub, map_eraseIdx]
   have h1 : (ents es).Perm ((e0.key, e0.val) :: (ents es).eraseIdx j) := by
    have hget : (ents es)[j]? = some (e0.key, e0.val) := by unfold ents; rw [List.getElem?_map, f2]; rfl
    obtain ⟨hlt, hget'⟩ := List.getElem?_eq_some_iff.1 hget
    have := set_perm (ents es) j hlt (e0.key, e0.val)
    rwa [← hget', List.set_getElem_self, hget'] at this
   exact (h1.symm.trans (hL.trans hm)).cons_inv
end
theorem run_entryStore_at {t : TypeId} {w2 : World} {es : Array MapEntry} {clock j st : Nat} (hb : w2.heap[b]? = some (.map es clock)) (hidx : es.findIdx? (fun e => ((e.born : Nat) : Int) == ((st : Nat) : Int)) = some j) (val : Value) :
  (Instr.entryStore t (.map (some b)) (.int .i64 st) val).run P w2 = .ok () (setBlock w2 b (.map (es.modify j (fun e' => { e' with val := val })) clock)) := by
 simp [Instr.entryStore, MapKept.run_getObj_map hb, asInt, asIntOf, hidx, MapKept.run_setObj_map _ hb, Result.andThen, setBlock]
theorem setBlock_twice (w : World) (b : Nat) (o o' : Obj) : setBlock (setBlock w b o) b o' = setBlock w b o' := by simp [setBlock]
theorem MapL.entry_new {t e : TypeId} (K : Keyed P k) (ht : P.underlying t = some (.map k e)) {key : Value} {kl : Lit} (hkey : keyOf P k key = some kl) (h : MapL P k w b L) {z : Value} (hz : ∀ u : World, (zeroValue e).run P u = .ok z u) (hm : ∀ v, (key, v) ∉ L) :
  ∃ (st : Nat) (w2 : World), (Instr.mapEntry t (.map (some b)) key).run P w = .ok (.tuple #[z, .int .i64 st]) w2 ∧ (Instr.lookup t (.map (some b)) key false).run P w2 = .ok z w2 ∧ w.mapTurned w2 b ∧
   ∀ val, ∃ w3, (Instr.entryStore t (.map (some b)) (.int .i64 st) val).run P w2 = .ok () w3 ∧ MapL P k w3 b ((key, val) :: L) ∧ w.mapTurned w3 b := by
 obtain ⟨es, clock, hb, hs, hk, hL⟩ := h
 rcases K.find w hkey es.toList hk with ⟨f1, f2⟩ | ⟨j, e0, f1, f2, f3⟩
 ·have hb2 := heap_setBlock_same hb (Obj.map (es.push ⟨key, z, clock⟩) (clock + 1))
  have hkeys : ∀ v, ∀ x ∈ (es.push ⟨key, v, clock⟩).toList, ∃ l, keyOf P k x.key = some l := by
   intro v x hx
   simp only [Array.toList_push, List.mem_append, List.mem_singleton] at hx
   rcases hx with hx | rfl
   ·exact hk x hx
   ·exact ⟨_, hkey⟩
  have hperm : ∀ v, (ents (es.push ⟨key, v, clock⟩)).Perm ((key, v) :: L) := by
   intro v
   unfold ents
   rw [Array.toList_push, List.map_append]
   exact (List.perm_append_singleton _ _).trans (hL.cons _)
  have hpush : MapL P k (setBlock w b (.map (es.push ⟨key, z, clock⟩) (clock + 1))) b ((key, z) :: L) := ⟨_, _, hb2, stamped_push hs f2, hkeys z, hperm z⟩
  refine ⟨clock, setBlock w b (.map (es.push ⟨key, z, clock⟩) (clock + 1)), ?_, hpush.look_hit K ht hkey (List.mem_cons_self ..), ⟨es, clock, _, _, hb, rfl⟩, fun val => ⟨setBlock w b (.map (es.push ⟨key, val, clock⟩) (clock + 1)), ?_, ⟨_, _, heap_setBlock_same hb _, stamped_push hs f2, hkeys val, hperm val⟩, ⟨es, clock, _, _, hb, rfl⟩⟩⟩
  ·simp [Instr.mapEntry, run_underlying ht, MapKept.run_getObj_map hb, K.check w false hkey, f1, hz, MapKept.run_setObj_map _ hb, Result.andThen, setBlock, goInt]
  ·have hidx : (es.push ⟨key, z, clock⟩).findIdx? (fun e => ((e.born : Nat) : Int) == ((clock : Nat) : Int)) = some es.size := by
    rw [WideElems.findIdx_arr]
    exact WideElems.findIdx_born (l := (es.push ⟨key, z, clock⟩).toList) (j := es.size) (e0 := ⟨key, z, clock⟩) (stamped_push hs f2 (val := z)).2.1 (by simp)
   have hmod : (es.push ⟨key, z, clock⟩).modify es.size (fun e => { e with val := val }) = es.push ⟨key, val, clock⟩ := by
    apply Array.ext'
    rw [Array.toList_modify, Array.toList_push, Array.toList_push, ← Array.length_toList, WideElems.modify_last]
   rw [run_entryStore_at hb2 hidx, hmod, setBlock_twice]
 ·exact absurd (hL.mem_iff.1 (List.mem_map.2 ⟨e0, List.mem_of_getElem? f2, by rw [f3]⟩)) (hm e0.val)
theorem MapL.entry_old {t e : TypeId} (K : Keyed P k) (ht : P.underlying t = some (.map k e)) {key : Value} {kl : Lit} (hkey : keyOf P k key = some kl) (h : MapL P k w b L) {u : Value} {L0 : List Ent} (hm : L.Perm ((key, u) :: L0)) :
  ∃ (st : Nat) (w2 : World), (Instr.mapEntry t (.map (some b)) key).run P w = .ok (.tuple #[u, .int .i64 st]) w2 ∧ (Instr.lookup t (.map (some b)) key false).run P w2 = .ok u w2 ∧ w.mapTurned w2 b ∧
   ∀ val, ∃ w3, (Instr.entryStore t (.map (some b)) (.int .i64 st) val).run P w2 = .ok () w3 ∧ MapL P k w3 b ((key, val) :: L0) ∧ w.mapTurned w3 b := by
 have hst := fun val => h.store_old K ht hkey val hm
 obtain ⟨es, clock, hb, hs, hk, hL⟩ := h
 obtain ⟨y, hy, ey⟩ := List.mem_map.1 ((hL.trans hm).mem_iff.2 (List.mem_cons_self ..))
 cases ey
 rcases K.find w hkey es.toList hk with ⟨f1, f2⟩ | ⟨j, e0, f1, f2, f3⟩
 ·exact absurd rfl (f2 y hy)
 ·obtain rfl : e0 = y := entry_eq_of_key ((stamped_iff es clock).1 hs).2.2 (List.mem_of_getElem? f2) hy f3
  have hj : es[j]? = some e0 := by simpa using f2
  have hsame : es.modify j (fun e => { e with key := e0.key }) = es := by
   apply Array.ext'
   rw [Array.toList_modify, modify_eq_set _ _ _ _ f2]
   exact WideElems.set_self _ _ _ f2
  have hb2 := heap_setBlock_same hb (Obj.map es clock)
  have hM : MapL P k (setBlock w b (.map es clock)) b ((e0.key, e0.val) :: L0) := ⟨es, clock, hb2, hs, hk, hL.trans hm⟩
  refine ⟨e0.born, setBlock w b (.map es clock), ?_, hM.look_hit K ht hkey (List.mem_cons_self ..), ⟨es, clock, _, _, hb, rfl⟩, fun val => ⟨setBlock w b (.map (es.modify j (fun e' => { e' with val := val })) clock), ?_, ?_, ⟨es, clock, _, _, hb, rfl⟩⟩⟩
  ·simp [Instr.mapEntry, run_underlying ht, MapKept.run_getObj_map hb, K.check w false hkey, f1, hj, K.stays w hkey, hsame, MapKept.run_setObj_map _ hb, Result.andThen, setBlock, goInt]
  ·have hidx : es.findIdx? (fun e => ((e.born : Nat) : Int) == ((e0.born : Nat) : Int)) = some j := by
    rw [WideElems.findIdx_arr]
    exact WideElems.findIdx_born hs.2.1 f2
   rw [run_entryStore_at hb2 hidx, setBlock_twice]
  ·obtain ⟨w3, hrun, h3, _⟩ := hst val
   have hmod : es.modify j (fun e => { e with val := val }) = es.modify j (fun e' => { e' with key := e0.key, val := val }) := by
    apply Array.ext'
    rw [Array.toList_modify, Array.toList_modify, modify_eq_set _ _ _ _ f2, modify_eq_set _ _ _ _ f2]
   have : (Instr.mapUpdate t (.map (some b)) e0.key val).run P w = .ok () (setBlock w b (.map (es.modify j (fun e' => { e' with val := val })) clock)) := by
    rw [hmod]
    simp [Instr.mapUpdate, run_underlying ht, MapKept.run_getObj_map hb, K.check w false hkey, f1, hj, K.stays w hkey, MapKept.run_setObj_map _ hb, Result.andThen, setBlock]
   rw [hrun] at this
   cases this
   exact h3
theorem MapL.len (h : MapL P k w b L) {t e : TypeId} (ht : P.underlying t = some (.map k e)) (ty : TypeId) : (Builtin.len_ #[t] ty #[.map (some b)]).run P w = .ok (.int .i64 L.length) w := by
 have h' := h
 obtain ⟨es, clock, hb, _⟩ := h
 rw [← h'.size_eq hb]
 simp [Builtin.len_, run_underlying ht, MapKept.run_getObj_map hb, goInt, Result.andThen]
theorem MapL.range (h : MapL P k w b L) {t e : TypeId} (ht : P.underlying t = some (.map k e)) :
  ∃ w', (Instr.range t (.map (some b))).run P w = .ok (.pointer (some ⟨w.heap.size, 0, none⟩)) w' ∧ RangeL P k w' b w.heap.size L L ∧ w.grownBy w' none ∧ w'.heap.size = w.heap.size + 1 := by
 have hlt := h.lt
 obtain ⟨es, clock, hb, hs, hk, hL⟩ := h
 refine ⟨_, run_range_map w t k e b es clock ht hb, ⟨es, clock, clock, #[], clock, ((MapKept.heap_alloc w _).2 b hlt).trans hb, hs, hk, hL, Go.heap_alloc_new w _, hs.1, ?_, Nat.le_refl _, Nat.le_refl _⟩, World.grownBy_alloc w _ none, by simp⟩
 have : leftOf es #[] = es := by unfold leftOf; simp
 rw [this]; exact hL
theorem RangeL.map (h : RangeL P k w b r L T) : MapL P k w b L := by
 obtain ⟨es, clock, since, seen, c0, hb, hs, hk, hL, _⟩ := h
 exact ⟨es, clock, hb, hs, hk, hL⟩
theorem RangeL.lt (h : RangeL P k w b r L T) : r < w.heap.size := by
 obtain ⟨es, clock, since, seen, c0, hb, hs, hk, hL, hr, _⟩ := h
 exact (Array.getElem?_eq_some_iff.1 hr).1
theorem RangeL.ne (h : RangeL P k w b r L T) : r ≠ b := by
 obtain ⟨es, clock, since, seen, c0, hb, hs, hk, hL, hr, _⟩ := h
 intro e; rw [e, hb] at hr; cases hr
theorem RangeL.left_eq (h : RangeL P k w b r L T) : w.rangeLeft b r = T.length := by
 obtain ⟨es, clock, since, seen, c0, hb, hs, hk, hL, hr, _, hT, _⟩ := h
 simp only [World.rangeLeft, hb, hr]
 have := hT.length_eq
 simpa [ents] using this
theorem RangeL.kept (h : RangeL P k w b r L T) {w' : World} {row : Option Nat} (hg : w.grownBy w' row) (hb' : some b ≠ row) (hr' : some r ≠ row) : RangeL P k w' b r L T := by
 have h1 := h.map.lt
 have h2 := h.lt
 obtain ⟨es, clock, since, seen, c0, hb, hs, hk, hL, hr, rest⟩ := h
 exact ⟨es, clock, since, seen, c0, (hg.block b h1 hb').trans hb, hs, hk, hL, (hg.block r h2 hr').trans hr, rest⟩
theorem RangeL.below (h : RangeL P k w b r L T) {w' : World} {B : Nat} (hB : Below B w w') (h1 : b < B) (h2 : r < B) : RangeL P k w' b r L T := by
 obtain ⟨es, clock, since, seen, c0, hb, hs, hk, hL, hr, rest⟩ := h
 exact ⟨es, clock, since, seen, c0, (hB.block b h1).trans hb, hs, hk, hL, (hB.block r h2).trans hr, rest⟩
theorem left_out (e : MapEntry) : ∀ l : List MapEntry, (l.map (·.born)).Nodup → e ∈ l → l.Perm (e :: l.filter fun x => !(x.born == e.born))
 | x :: l, hn, he => by
  obtain ⟨h1, h2⟩ : x.born ∉ l.map (·.born) ∧ (l.map (·.born)).Nodup := List.nodup_cons.1 hn
  rcases List.mem_cons.1 he with rfl | h
  ·have : l.filter (fun x => !(x.born == e.born)) = l := List.filter_eq_self.2 (fun y hy => by
    have : y.born ≠ e.born := fun c => h1 (List.mem_map.2 ⟨y, hy, c⟩)
    simpa using this)
   simp [this]
  ·have hx : (x.born == e.born) = false := by
    cases hc : x.born == e.born with
    | false => rfl
    | true => exact absurd (List.mem_map.2 ⟨e, h, (beq_iff_eq.1 hc).symm⟩) h1
   rw [List.filter_cons_of_pos (by simp [hx])]
   exact ((left_out e l h2 h).cons x).trans (List.Perm.swap _ _ _)
theorem RangeL.next (h : RangeL P k w b r L T) (ty : TypeId) :
  (T = [] ∧ (Instr.next (.pointer (some ⟨r, 0, none⟩)) false ty).run P w = .ok (.tuple #[.bool false]) w) ∨
  ∃ x T' w', T.Perm (x :: T') ∧ (Instr.next (.pointer (some ⟨r, 0, none⟩)) false ty).run P w = .ok (.tuple #[.bool true, x.1, x.2]) w' ∧ RangeL P k w' b r L T' ∧ w.grownBy w' (some r) ∧ w'.heap.size = w.heap.size ∧ (Instr.entry (.pointer (some ⟨r, 0, none⟩))).run P w' = .ok (.tuple #[x.1, x.2]) w' := by
 have hne := h.ne
 obtain ⟨es, clock, since, seen, c0, hb, hs, hk, hL, hr, hold, hT, hsc, hsk⟩ := h
 have hst := (stamped_iff es clock).1 hs
 rcases run_next_at (P := P) w ty r b since c0 seen es clock hr hb hold hsc with ⟨h0, hrun⟩ | ⟨e, he, w1, hal, hrun⟩
 ·refine Or.inl ⟨?_, hrun⟩
  have : leftOf es seen = #[] := Array.eq_empty_of_size_eq_zero h0
  rw [this] at hT
  exact (List.nil_perm.1 hT)
 ·obtain ⟨hem, hes⟩ := mem_left he
  have hr1 : w1.heap[r]? = some (.mapIter (some b) since seen c0) := by rcases hal with rfl | rfl <;> exact hr
  have hb1 : w1.heap[b]? = some (.map es clock) := by rcases hal with rfl | rfl <;> exact hb
  have hset := heap_set (o' := .mapIter (some b) since (seen.push e.born) clock) hr1
  have hb' : (setBlock w1 r (.mapIter (some b) since (seen.push e.born) clock)).heap[b]? = some (.map es clock) := (hset.2 b (fun e1 => hne e1.symm)).trans hb1
  have hleft : (leftOf es (seen.push e.born)).toList = (leftOf es seen).toList.filter (fun x => !(x.born == e.born)) := by
   unfold leftOf
   rw [Array.toList_filter, Array.toList_filter, List.filter_filter]
   refine List.filter_congr fun x hx => ?_
   rw [contains_push]
   cases seen.contains x.born <;> cases (x.born == e.born) <;> rfl
  have hnd : ((leftOf es seen).toList.map (·.born)).Nodup := by
   unfold leftOf
   rw [Array.toList_filter]
   exact (List.filter_sublist.map _).nodup hst.2.1
  refine Or.inr ⟨(e.key, e.val), ents (leftOf es (seen.push e.born)), _, ?_, hrun, ⟨es, clock, since, seen.push e.born, clock, hb', hs, hk, hL, hset.1, hold, List.Perm.refl _, hsk, hsk⟩, ?_, ?_, run_entry_at _ r b since seen es clock e hset.1 hb' hem hst.2.1⟩
  ·refine hT.symm.trans ?_
   unfold ents
   rw [hleft]
   exact (left_out e _ hnd he).map (fun x : MapEntry => (x.key, x.val))
  ·rcases hal with rfl | rfl <;> exact ⟨rfl, rfl, rfl, by simp [setBlock], fun i _ hi => hset.2 i (fun e1 => hi (by rw [e1]))⟩
  ·rcases hal with rfl | rfl <;> simp [setBlock]
section
variable {w : World} {ops : Array Oper} {rest : List Oper} {o : Oper} {a : Act} {Q : Exit → Act → World → Prop}
theorem wpL_range (hg : o.guard = none) (m : Operand) (t : TypeId) (hop : o.op = Op.range t m) (k e : TypeId) (ht : P.underlying t = some (.map k e)) (b : Nat) (L : List Ent) (hm : a.eval m = .map (some b)) (h : MapL P k w b L)
  (hK : ∀ w', RangeL P k w' b w.heap.size L L → w.grownBy w' none → w'.heap.size = w.heap.size + 1 → wpList P ops Q rest (a.put o.dst (.pointer (some ⟨w.heap.size, 0, none⟩))) w') : wpList P ops Q (o :: rest) a w := by
 refine wpList_plain hg fun K' hK' => ?_
 obtain ⟨w', hrun, r1, r2, r3⟩ := h.range ht
 unfold Oper.wp
 simp [execOp, hop, hm, hrun, Result.andThen]
 exact hK' _ _ (hK w' r1 r2 r3)
theorem wpL_next (hg : o.guard = none) (it : Operand) (hop : o.op = Op.next it false) (k : TypeId) (b r : Nat) (L T : List Ent) (hit : a.eval it = .pointer (some ⟨r, 0, none⟩)) (h : RangeL P k w b r L T)
  (hDone : T = [] → wpList P ops Q rest (a.put o.dst (.tuple #[.bool false])) w)
  (hMore : ∀ x T' w', T.Perm (x :: T') → RangeL P k w' b r L T' → w.grownBy w' (some r) → w'.heap.size = w.heap.size → (Instr.entry (.pointer (some ⟨r, 0, none⟩))).run P w' = .ok (.tuple #[x.1, x.2]) w' → wpList P ops Q rest (a.put o.dst (.tuple #[.bool true, x.1, x.2])) w') : wpList P ops Q (o :: rest) a w := by
 refine wpList_plain hg fun K' hK' => ?_
 unfold Oper.wp
 rcases h.next o.type with ⟨h0, hrun⟩ | ⟨x, T', w', hp, hrun, hrg, hgr, hsz, hen⟩
 ·simp [execOp, hop, hit, hrun, Result.andThen]
  exact hK' _ _ (hDone h0)
 ·simp [execOp, hop, hit, hrun, Result.andThen]
  exact hK' _ _ (hMore x T' w' hp hrg hgr hsz hen)
theorem stepL_delete {K : Act → World → Prop} {Q' : Exit → Act → World → Prop} {E : Prop} (hg : o.guard = none) (m x : Operand) (t k : TypeId) (hop : o.op = Op.call { callee := Callee.builtin Builtin.delete, args := #[m, x], argTypes := #[t, k] }) (b : Nat) (key : Value) (hm : a.eval m = .map (some b)) (hx : a.eval x = key) (w' : World)
  (hr : ∀ ty, (Builtin.delete_ #[t, k] ty #[.map (some b), key]).run P w = .ok (.tuple #[]) w') (hK : K (a.put o.dst (.tuple #[])) w') : if Region.wanted o (yielded ops a.tmps) = true then Oper.wp P o a w K Q' else E := by
 have hw : Region.wanted o (yielded ops a.tmps) = true := by simp [Region.wanted, hg]
 rw [if_pos hw]
 unfold Oper.wp
 simp [execOp, hop, resolve, invoke, builtin, hm, hx, hr o.type, Result.andThen]
 exact hK
theorem wpL_len (hg : o.guard = none) (m : Operand) (t : TypeId) (hop : o.op = Op.call { callee := Callee.builtin Builtin.len, args := #[m], argTypes := #[t] }) (k e : TypeId) (ht : P.underlying t = some (.map k e)) (b : Nat) (L : List Ent) (N : Nat) (hN : L.length = N) (hm : a.eval m = .map (some b)) (h : MapL P k w b L)
  (hK : wpList P ops Q rest (a.put o.dst (.int .i64 N)) w) : wpList P ops Q (o :: rest) a w := by
 subst hN
 refine wpList_plain hg fun K' hK' => ?_
 unfold Oper.wp
 simp [execOp, hop, resolve, invoke, builtin, hm, h.len ht o.type, Result.andThen]
 exact hK' _ _ hK
theorem wpL_look (hg : o.guard = none) (m x : Operand) (t : TypeId) (hop : o.op = Op.lookup t m x false) (b : Nat) (key v : Value) (hm : a.eval m = .map (some b)) (hx : a.eval x = key) (hr : (Instr.lookup t (.map (some b)) key false).run P w = .ok v w)
  (hK : wpList P ops Q rest (a.put o.dst v) w) : wpList P ops Q (o :: rest) a w := by
 refine wpList_plain hg fun K' hK' => ?_
 unfold Oper.wp
 simp [execOp, hop, hm, hx, hr, Result.andThen]
 exact hK' _ _ hK
end
end Go.Proofs.YteomomeigbfeoaaGreatDoor
namespace Go.Proofs.YteomomeigbfeoaaGreatDoor
open Go.Lib
def dig (c : UInt8) : Bool := decide (48 ≤ c.toNat) && decide (c.toNat ≤ 57)
def numVal (l : List UInt8) : Nat := l.foldl (fun n c => n * 10 + (c.toNat - 48)) 0
def isNum (most : Nat) (l : List UInt8) : Bool := !l.isEmpty && decide (l.length ≤ most) && !(decide (1 < l.length) && decide ((l.headD 0).toNat = 48)) && l.all dig
def numR (most : Nat) (l : List UInt8) : Int := if isNum most l then numVal l else 0
theorem numR_yes {most : Nat} {l : List UInt8} (h : isNum most l = true) : numR most l = numVal l := by unfold numR; rw [if_pos h]
theorem numR_no {most : Nat} {l : List UInt8} (h : isNum most l = false) : numR most l = 0 := by unfold numR; rw [if_neg (by rw [h]; decide)]
theorem numVal_snoc (l : List UInt8) (c : UInt8) : numVal (l ++ [c]) = numVal l * 10 + (c.toNat - 48) := by simp [numVal]
theorem foldl_lt : ∀ (l : List UInt8) (a : Nat), l.all dig = true → l.foldl (fun n c => n * 10 + (c.toNat - 48)) a < (a + 1) * 10 ^ l.length
 | [], a, _ => by simp
 | c :: l, a, h => by
  simp only [List.all_cons, Bool.and_eq_true] at h
  have hc : c.toNat ≤ 57 := by have := h.1; simp [dig] at this; exact this.2
  have ih := foldl_lt l (a * 10 + (c.toNat - 48)) h.2
  have h2 : (a * 10 + (c.toNat - 48) + 1) * 10 ^ l.length ≤ (a + 1) * 10 * 10 ^ l.length := Nat.mul_le_mul_right _ (by omega)
  rw [List.foldl_cons, List.length_cons, Nat.pow_succ, Nat.mul_comm (10 ^ l.length) 10, ← Nat.mul_assoc]
  omega
theorem numVal_lt (l : List UInt8) (h : l.all dig = true) : numVal l < 10 ^ l.length := by
 have := foldl_lt l 0 h
 simpa [numVal] using this
theorem ofNat_toNat {k : Nat} (h : k < 256) : (UInt8.ofNat k).toNat = k := by simp; omega
theorem dig_ofNat {k : Nat} (h : k < 10) : dig (UInt8.ofNat (48 + k)) = true := by
 have e : (UInt8.ofNat (48 + k)).toNat = 48 + k := ofNat_toNat (by omega)
 unfold dig
 rw [e, decide_eq_true (by omega), decide_eq_true (by omega)]; rfl
theorem decDigits_facts (u : Nat) : (decDigits u).all dig = true ∧ numVal (decDigits u) = u ∧ decDigits u ≠ [] ∧ ((decDigits u).headD 0).toNat = 48 + (if u = 0 then 0 else (((decDigits u).headD 0).toNat - 48)) ∧ (u ≠ 0 → ((decDigits u).headD 0).toNat ≠ 48) := by
 induction u using Nat.strongRecOn with
 | _ u ih =>
  by_cases h : u < 10
  ·have e : (UInt8.ofNat (48 + u)).toNat = 48 + u := ofNat_toNat (by omega)
   rw [decDigits, dif_pos h]
   refine ⟨by rw [List.all_cons, dig_ofNat h]; rfl, by simp only [numVal, List.foldl_cons, List.foldl_nil]; rw [e]; omega, by simp, ?_, ?_⟩
   ·simp only [List.headD_cons]; rw [e]; split <;> omega
   ·intro h0; simp only [List.headD_cons]; rw [e]; omega
  ·obtain ⟨h1, h2, h3, h4, h5⟩ := ih (u / 10) (by omega)
   have e : (UInt8.ofNat (48 + u % 10)).toNat = 48 + u % 10 := ofNat_toNat (by omega)
   rw [decDigits, dif_neg h]
   have hh : (decDigits (u / 10) ++ [UInt8.ofNat (48 + u % 10)]).headD 0 = (decDigits (u / 10)).headD 0 := by
    cases hd : decDigits (u / 10) with
    | nil => exact absurd hd h3
    | cons a r => rfl
   have h5' := h5 (by omega)
   have hge : 48 ≤ ((decDigits (u / 10)).headD 0).toNat := by
    rw [h4]; exact Nat.le_add_right _ _
   refine ⟨by rw [List.all_append, h1]; rw [List.all_cons, dig_ofNat (Nat.mod_lt u (by decide : 10 > 0))]; rfl, by rw [numVal_snoc, h2, e]; omega, by simp, ?_, ?_⟩
   ·rw [hh, if_neg (by omega)]; omega
   ·intro _; rw [hh]; exact h5'
theorem numVal_dec (u : Nat) : numVal (decDigits u) = u := (decDigits_facts u).2.1
theorem all_dec (u : Nat) : (decDigits u).all dig = true := (decDigits_facts u).1
theorem dec_ne (u : Nat) : decDigits u ≠ [] := (decDigits_facts u).2.2.1
theorem nDigits_le : ∀ (k u : Nat), 1 ≤ k → u < 10 ^ k → nDigits u ≤ k := by
 intro k u hk h
 by_cases h0 : u < 10
 ·rw [nDigits_small h0]; exact hk
 ·obtain ⟨j, hj⟩ : ∃ j, nDigits u = j + 1 := ⟨nDigits u - 1, by have := nDigits_pos u; omega⟩
  rcases Nat.lt_or_ge k (nDigits u) with hlt | hge
  ·exfalso
   have hle : ∀ u, 10 ^ (nDigits u - 1) ≤ u ∨ u = 0 := by
    intro u
    induction u using Nat.strongRecOn with
    | _ u ih =>
     by_cases h0 : u < 10
     ·rw [nDigits_small h0]; simp; omega
     ·rcases ih (u / 10) (by omega) with h1 | h1
      ·left
       rw [nDigits_big h0]
       have hp := nDigits_pos (u / 10)
       obtain ⟨m, hm⟩ : ∃ m, nDigits (u / 10) = m + 1 := ⟨nDigits (u / 10) - 1, by omega⟩
       rw [hm] at h1 ⊢
       simp only [Nat.add_sub_cancel] at h1 ⊢
       rw [Nat.pow_succ]
       omega
      ·omega
   rcases hle u with h1 | h1
   ·have : 10 ^ k ≤ 10 ^ (nDigits u - 1) := Nat.pow_le_pow_right (by decide) (by omega)
    omega
   ·omega
  ·exact hge
theorem isNum_dec (most u : Nat) (hm : 1 ≤ most) (h : u < 10 ^ most) : isNum most (decDigits u) = true := by
 have h1 := nDigits_le most u hm h
 have h2 := (decDigits_facts u).2.2.2.2
 unfold isNum
 rw [decDigits_length, all_dec]
 have e1 : (decDigits u).isEmpty = false := by rw [List.isEmpty_eq_false_iff]; exact dec_ne u
 rw [e1, decide_eq_true h1]
 by_cases h0 : u = 0
 ·subst h0
  rw [nDigits_small (by decide)]; rfl
 ·rw [decide_eq_false (h2 h0)]; simp
/- a text without a sign, and cut at its first one -/
def pre (c : UInt8) (l : List UInt8) : List UInt8 := l.takeWhile (· != c)
def post (c : UInt8) (l : List UInt8) : List UInt8 := (l.dropWhile (· != c)).drop 1
def has (c : UInt8) (l : List UInt8) : Bool := l.any (· == c)
theorem indexByte_eq (c : UInt8) : ∀ l : List UInt8, indexByte l c = if has c l then ((pre c l).length : Int) else -1
 | [] => rfl
 | b :: l => by
  have ih := indexByte_eq c l
  unfold indexByte
  by_cases h : b = c
  ·subst h; simp [has, pre]
  ·have hb : (b == c) = false := by simpa using h
   have hb' : (b != c) = true := by simp [bne, hb]
   rw [hb, if_neg (by decide), ih]
   by_cases hh : has c l = true
   ·have hh' : has c (b :: l) = true := by unfold has at *; simp only [List.any_cons, hb, Bool.false_or]; exact hh
    rw [hh, hh']
    simp only [if_true]
    have hp : pre c (b :: l) = b :: pre c l := by unfold pre; rw [List.takeWhile_cons, hb']; rfl
    rw [hp]
    have hne : (((pre c l).length : Int) == -1) = false := by
     rw [beq_eq_false_iff_ne]; omega
    rw [hne]
    simp
   ·have hh2 : has c l = false := by simpa using hh
    have hh' : has c (b :: l) = false := by unfold has at *; simp only [List.any_cons, hb, Bool.false_or]; exact hh2
    rw [hh2, hh']
    simp
theorem take_pre (c : UInt8) : ∀ l : List UInt8, l.take (pre c l).length = pre c l
 | [] => rfl
 | b :: l => by
  unfold pre
  rw [List.takeWhile_cons]
  split
  ·have := take_pre c l; unfold pre at this; simp [this]
  ·rfl
theorem drop_pre (c : UInt8) : ∀ l : List UInt8, l.drop ((pre c l).length + 1) = post c l
 | [] => rfl
 | b :: l => by
  unfold pre post
  rw [List.takeWhile_cons, List.dropWhile_cons]
  split
  ·have := drop_pre c l; unfold pre post at this; simpa using this
  ·simp
theorem pre_length_le (c : UInt8) (l : List UInt8) : (pre c l).length ≤ l.length := by
 have := congrArg List.length (take_pre c l)
 rw [List.length_take] at this
 omega
theorem pre_length_lt (c : UInt8) : ∀ l : List UInt8, has c l = true → (pre c l).length < l.length
 | [], h => by cases h
 | b :: l, h => by
  unfold pre
  rw [List.takeWhile_cons]
  split
  ·rename_i hb
   have hb' : (b == c) = false := by simpa [bne] using hb
   have hh : has c l = true := by unfold has at *; simpa only [List.any_cons, hb', Bool.false_or] using h
   have := pre_length_lt c l hh
   unfold pre at this
   simp; omega
  ·simp
theorem pre_append (c : UInt8) : ∀ (a b : List UInt8), has c a = false → pre c (a ++ c :: b) = a ∧ post c (a ++ c :: b) = b ∧ has c (a ++ c :: b) = true
 | [], b, _ => by simp [pre, post, has]
 | x :: a, b, h => by
  have hx : (x == c) = false := by unfold has at h; simp only [List.any_cons, Bool.or_eq_false_iff] at h; exact h.1
  have ha : has c a = false := by unfold has at *; simp only [List.any_cons, Bool.or_eq_false_iff] at h; exact h.2
  obtain ⟨h1, h2, h3⟩ := pre_append c a b ha
  have hx' : (x != c) = true := by simp [bne, hx]
  unfold pre post has at *
  refine ⟨?_, ?_, ?_⟩
  ·rw [List.cons_append, List.takeWhile_cons, hx']; simp [h1]
  ·rw [List.cons_append, List.dropWhile_cons, hx']; exact h2
  ·rw [List.cons_append, List.any_cons, h3]; simp
/- pieces -/
def pw (p : Int) : Bool := decide (1 ≤ p) && decide (p ≤ 1000)
end Go.Proofs.YteomomeigbfeoaaGreatDoor
namespace Go.Proofs.YteomomeigbfeoaaGreatDoor
open Go.RowKit Go.Lib
theorem take_snoc (s : ByteArray) (k : Nat) (h : k < s.size) : s.data.toList.take (k + 1) = s.data.toList.take k ++ [s[k]] := by
 rw [List.take_succ_eq_append_getElem (by simpa using h)]; rfl
theorem isEmpty_of (s : ByteArray) (h : 1 ≤ s.size) : s.toList.isEmpty = false := by
 rw [← decide_eq_emptyBytes]
 apply decide_eq_false
 rintro rfl
 exact absurd h (by decide)
theorem isNum_all {most : Nat} {l : List UInt8} (h0 : 1 ≤ l.length) (h1 : l.length ≤ most) (h2 : 1 < l.length → (l.headD 0).toNat ≠ 48) : isNum most l = l.all dig := by
 unfold isNum
 have e1 : l.isEmpty = false := by rw [List.isEmpty_eq_false_iff]; rintro rfl; exact absurd h0 (by decide)
 rw [e1, decide_eq_true h1]
 by_cases h : 1 < l.length
 ·rw [decide_eq_true h, decide_eq_false (h2 h)]; simp
 ·rw [decide_eq_false h]; simp
theorem head_eq (s : ByteArray) (h : 0 < s.size) : s.data.toList.headD 0 = s[0] := by
 have e : s.data.toList = s[0] :: s.data.toList.drop 1 := by
  have := List.take_append_drop 1 s.data.toList
  rw [take_snoc s 0 h] at this
  simpa using this.symm
 rw [e]; rfl
theorem size_len (s : ByteArray) : s.data.toList.length = s.size := (Lib.size_eq s).symm
theorem val_bound (s : ByteArray) (k most : Nat) (h : k < s.size) (h1 : s.size ≤ most) (hm : most ≤ 18) (ha : (s.data.toList.take k).all dig = true) : numVal (s.data.toList.take k) ≤ 99999999999999999 := by
 have hl := numVal_lt _ ha
 have hk : (s.data.toList.take k).length ≤ 17 := Nat.le_trans (List.length_take_le _ _) (by omega)
 have hp : 10 ^ (s.data.toList.take k).length ≤ 10 ^ 17 := Nat.pow_le_pow_right (by decide) hk
 have : (10 : Nat) ^ 17 = 100000000000000000 := by decide
 omega
theorem all_false_of (s : ByteArray) (k : Nat) (h : k < s.size) (hd : dig s[k] = false) : s.data.toList.all dig = false := by
 rw [List.all_eq_false]
 refine ⟨s[k], ?_, by rw [hd]; decide⟩
 have := List.getElem_mem (l := s.data.toList) (n := k) (by rw [size_len]; exact h)
 exact this
theorem num_bad (s : ByteArray) (k most : Nat) (w : World) (H : isNum most s.data.toList = s.data.toList.all dig) (h : k < s.size) (hd : dig s[k] = false) :
  Ending.returned (.tuple #[.int .i64 0, .bool false]) = Ending.returned (.tuple #[.int .i64 (numR most s.data.toList), .bool (isNum most s.data.toList)]) ∧ w = w := by
 have e : isNum most s.data.toList = false := by rw [H]; exact all_false_of s k h hd
 rw [numR_no e, e]; exact ⟨rfl, rfl⟩
theorem num_good (s : ByteArray) (k most : Nat) (w : World) (H : isNum most s.data.toList = s.data.toList.all dig) (h : s.size ≤ k) (ha : (s.data.toList.take k).all dig = true) :
  Ending.returned (.tuple #[.int .i64 (numVal (s.data.toList.take k)), .bool true]) = Ending.returned (.tuple #[.int .i64 (numR most s.data.toList), .bool (isNum most s.data.toList)]) ∧ w = w := by
 rw [List.take_of_length_le (by rw [size_len]; exact h)] at ha ⊢
 have e : isNum most s.data.toList = true := by rw [H]; exact ha
 rw [numR_yes e, e]; exact ⟨rfl, rfl⟩
theorem num_step (s : ByteArray) (k N : Nat) (h : k < s.size) (hN : numVal (s.data.toList.take k) = N) (hd : 48 ≤ s[k].toNat) :
  Value.int .i64 ((N : Int) * 10 + ((s[k].toNat : Int) - 48)) = .int .i64 (numVal (s.data.toList.take (k + 1))) := by
 rw [take_snoc s k h, numVal_snoc, hN]
 congr 1
 omega
theorem numRead_all (s : ByteArray) (most : Nat) (w : World) (hm : most ≤ 18) (h0 : 1 ≤ s.size) (h1 : s.size ≤ most) (h2 : 1 < s.size → ((s.data.toList.headD 0).toNat : Int) ≠ 48) :
  Calls Tryz.prog 112 #[.string s, .int .i64 most] w fun e w' => e = .returned (.tuple #[.int .i64 (numR most s.data.toList), .bool (isNum most s.data.toList)]) ∧ w' = w := by
 have H : Hid (isNum most s.data.toList = s.data.toList.all dig) := isNum_all (by rw [size_len]; exact h0) (by rw [size_len]; exact h1) (fun h => by rw [size_len] at h; have := h2 h; omega)
 have he := isEmpty_of s h0
 have he' : ¬ s.toList = [] := by rw [← List.isEmpty_iff, he]; decide
 rw [head_eq s h0] at h2
 by_cases hs : 1 < s.size
 ·have h3 : ((s[0].toNat : Int) == 48) = false := by simpa using h2 hs
  clear h2
  go_enter Tryz.func112, Tryz.ntmps112
  go_wp2
  go_loop [6, 29] (fun n i => ∃ k : Nat, k ≤ s.size ∧ i = .int .i64 k ∧ n = .int .i64 (numVal (s.data.toList.take k)) ∧ (s.data.toList.take k).all dig = true) (fun _ i => s.size - (RowKit.intOf i).toNat)
  case atStart => exact ⟨0, Nat.zero_le _, rfl, rfl, rfl⟩
  case round =>
   obtain ⟨k, hk, rfl, rfl, hall⟩ := hrel
   by_cases hlt : k < s.size
   ·have hv := val_bound s k most hlt h1 hm hall
    have HS : Hid (s.data.toList.take (k + 1) = s.data.toList.take k ++ [s[k]]) := take_snoc s k hlt
    have HA : Hid ((s.data.toList.take k).all dig = true) := hall
    clear hall
    generalize hN : (numVal (s.data.toList.take k)) = N at hv
    have HN : Hid (numVal (s.data.toList.take k) = N) := hN
    clear hN
    have hb : 0 ≤ (s[k].toNat : Int) ∧ (s[k].toNat : Int) ≤ 255 := by have := s[k].toNat_lt; omega
    by_cases d1 : (s[k].toNat : Int) < 48
    ·go_wp2
     go_ret2
     exact num_bad s k most w H.out hlt (by unfold dig; simp; omega)
    ·by_cases d2 : 57 < (s[k].toNat : Int)
     ·go_wp2
      go_ret2
      exact num_bad s k most w H.out hlt (by unfold dig; simp; omega)
     ·go_wp2
      go_round
      case rel => exact ⟨k + 1, by omega, by go_num, num_step s k N hlt HN.out (by omega), by rw [HS.out, List.all_append, HA.out]; simp [dig]; omega⟩
      case measure => simp [RowKit.intOf]; omega
   ·go_wp2
    go_ret2
    exact num_good s k most w H.out (by omega) hall
 ·clear h2
  go_enter Tryz.func112, Tryz.ntmps112
  go_wp2
  go_loop [6, 29] (fun n i => ∃ k : Nat, k ≤ s.size ∧ i = .int .i64 k ∧ n = .int .i64 (numVal (s.data.toList.take k)) ∧ (s.data.toList.take k).all dig = true) (fun _ i => s.size - (RowKit.intOf i).toNat)
  case atStart => exact ⟨0, Nat.zero_le _, rfl, rfl, rfl⟩
  case round =>
   obtain ⟨k, hk, rfl, rfl, hall⟩ := hrel
   by_cases hlt : k < s.size
   ·have hv := val_bound s k most hlt h1 hm hall
    have HS : Hid (s.data.toList.take (k + 1) = s.data.toList.take k ++ [s[k]]) := take_snoc s k hlt
    have HA : Hid ((s.data.toList.take k).all dig = true) := hall
    clear hall
    generalize hN : (numVal (s.data.toList.take k)) = N at hv
    have HN : Hid (numVal (s.data.toList.take k) = N) := hN
    clear hN
    have hb : 0 ≤ (s[k].toNat : Int) ∧ (s[k].toNat : Int) ≤ 255 := by have := s[k].toNat_lt; omega
    by_cases d1 : (s[k].toNat : Int) < 48
    ·go_wp2
     go_ret2
     exact num_bad s k most w H.out hlt (by unfold dig; simp; omega)
    ·by_cases d2 : 57 < (s[k].toNat : Int)
     ·go_wp2
      go_ret2
      exact num_bad s k most w H.out hlt (by unfold dig; simp; omega)
     ·go_wp2
      go_round
      case rel => exact ⟨k + 1, by omega, by go_num, num_step s k N hlt HN.out (by omega), by rw [HS.out, List.all_append, HA.out]; simp [dig]; omega⟩
      case measure => simp [RowKit.intOf]; omega
   ·go_wp2
    go_ret2
    exact num_good s k most w H.out (by omega) hall
theorem isNum_nil (most : Nat) : isNum most [] = false := rfl
theorem isNum_long {most : Nat} {l : List UInt8} (h : most < l.length) : isNum most l = false := by
 unfold isNum
 rw [decide_eq_false (by omega)]; simp
theorem isNum_zero {most : Nat} {l : List UInt8} (h : 1 < l.length) (h0 : (l.headD 0).toNat = 48) : isNum most l = false := by
 unfold isNum
 rw [decide_eq_true h, decide_eq_true h0]; simp
theorem num_none (most : Nat) (l : List UInt8) (w : World) (h : isNum most l = false) :
  Ending.returned (.tuple #[.int .i64 0, .bool false]) = Ending.returned (.tuple #[.int .i64 (numR most l), .bool (isNum most l)]) ∧ w = w := by
 rw [numR_no h, h]; exact ⟨rfl, rfl⟩
theorem numRead (s : ByteArray) (most : Nat) (w : World) (hm : most ≤ 18) (hz : s.size ≤ maxLen) :
  Calls Tryz.prog 112 #[.string s, .int .i64 most] w fun e w' => e = .returned (.tuple #[.int .i64 (numR most s.data.toList), .bool (isNum most s.data.toList)]) ∧ w' = w := by
 unfold maxLen at hz
 by_cases h0 : 1 ≤ s.size
 ·have he := isEmpty_of s h0
  have he' : ¬ s.toList = [] := by rw [← List.isEmpty_iff, he]; decide
  by_cases h1 : s.size ≤ most
  ·by_cases h2 : 1 < s.size ∧ ((s.data.toList.headD 0).toNat : Int) = 48
   ·obtain ⟨h2, h3⟩ := h2
    have HN : Hid (isNum most s.data.toList = false) := isNum_zero (by rw [size_len]; exact h2) (by omega)
    rw [head_eq s h0] at h3
    have h4 : ((s[0].toNat : Int) == 48) = true := by simpa using h3
    clear h3
    go_enter Tryz.func112, Tryz.ntmps112
    go_wp2
    go_ret2
    exact num_none most _ w HN.out
   ·exact numRead_all s most w hm h0 h1 (fun h h' => h2 ⟨h, h'⟩)
  ·have HN : Hid (isNum most s.data.toList = false) := isNum_long (by rw [size_len]; omega)
   go_enter Tryz.func112, Tryz.ntmps112
   go_wp2
   go_ret2
   exact num_none most _ w HN.out
 ·have hs : s.data.toList = [] := List.eq_nil_of_length_eq_zero (by rw [size_len]; omega)
  have HN : Hid (isNum most s.data.toList = false) := by rw [hs]; exact isNum_nil most
  have he : s = ByteArray.empty := by cases s; simp at hs; subst hs; rfl
  clear hs
  subst he
  go_enter Tryz.func112, Tryz.ntmps112
  go_wp2
  go_ret2
  exact num_none most _ w HN.out
end Go.Proofs.YteomomeigbfeoaaGreatDoor
namespace Go.Proofs.YteomomeigbfeoaaGreatDoor
open Go.RowKit Go.Lib Go.Sort
theorem isEmpty_nil {s : ByteArray} (h : s.data.toList = []) : s = ByteArray.empty := by
 cases s; simp at h; subst h; rfl
theorem bytes_toList (l : List UInt8) : (⟨l.toArray⟩ : ByteArray).data.toList = l := by simp
def Pow (w : World) : Prop := TabIs Tryz.prog w "internal/strconv.uint64pow10" .u64 pow10Tab
theorem Pow.below {w w' : World} (h : Pow w) (hb : Below w.heap.size w w') : Pow w' := by
 unfold Pow TabIs World.var? at *
 cases hg : Tryz.prog.globalNamed "internal/strconv.uint64pow10" with
 | none => simp [hg] at h
 | some g =>
  simp only [hg, Option.bind_some] at h ⊢
  have hlt : g < w.heap.size := by
   rcases Nat.lt_or_ge g w.heap.size with h' | h'
   ·exact h'
   ·simp [Array.getElem?_eq_none h'] at h
  rw [hb.block g hlt]
  exact h
theorem below_grow (w : World) (k : Nat) (os : Array Obj) : Below w.heap.size w (grow (w.drewN k) os) :=
 ⟨rfl, rfl, rfl, by show w.heap.size ≤ (w.heap ++ os).size; simp, fun j hj => by show (w.heap ++ os)[j]? = _; rw [Array.getElem?_append_left hj]⟩
theorem itoa_any (n : Int) (h0 : 0 ≤ n) (h1 : n ≤ 9223372036854775807) (w : World) (hp : Pow w) :
  Calls Tryz.prog 75 #[.int .i64 n] w fun e w' => e = .returned (.string ⟨(decDigits n.toNat).toArray⟩) ∧ Below w.heap.size w w' := by
 refine (Tryz.strconv_Itoa n (by omega) h1 w hp).mono ?_
 rintro e w' ⟨rfl, k, os, rfl⟩
 refine ⟨?_, below_grow w k os⟩
 unfold itoa
 rw [if_neg (by omega)]
theorem dec_short (u : Nat) (h : u < 10 ^ 13) : (decDigits u).length ≤ 13 := by rw [decDigits_length]; exact nDigits_le 13 u (by decide) h
def nameB (c : UInt8) : Bool := (decide (97 ≤ c.toNat) && decide (c.toNat ≤ 122)) || (decide (48 ≤ c.toNat) && decide (c.toNat ≤ 57))
def isName (l : List UInt8) : Bool := l.all nameB && (decide (1 ≤ l.length) && decide (l.length ≤ 8))
theorem name_false_of (s : ByteArray) (k : Nat) (h : k < s.size) (hd : nameB s[k] = false) : s.data.toList.all nameB = false := by
 rw [List.all_eq_false]
 refine ⟨s[k], ?_, by rw [hd]; decide⟩
 have := List.getElem_mem (l := s.data.toList) (n := k) (by rw [size_len]; exact h)
 exact this
theorem name_bad (s : ByteArray) (k : Nat) (w : World) (h : k < s.size) (hd : nameB s[k] = false) : Ending.returned (.bool false) = Ending.returned (.bool (isName s.data.toList)) ∧ w = w := by
 unfold isName
 rw [name_false_of s k h hd]; exact ⟨rfl, rfl⟩
theorem name_good (s : ByteArray) (k : Nat) (w : World) (h : s.size ≤ k) (ha : (s.data.toList.take k).all nameB = true) : Ending.returned (.bool (decide (1 ≤ s.size) && decide (s.size ≤ 8))) = Ending.returned (.bool (isName s.data.toList)) ∧ w = w := by
 rw [List.take_of_length_le (by rw [size_len]; exact h)] at ha
 unfold isName
 rw [ha, size_len]; exact ⟨rfl, rfl⟩
theorem nameByte_any (c : Int) (w : World) (h0 : 0 ≤ c) (h1 : c ≤ 255) :
  Calls Tryz.prog 165 #[.int .u8 c] w fun e w' => e = .returned (.bool ((decide (97 ≤ c) && decide (c ≤ 122)) || (decide (48 ≤ c) && decide (c ≤ 57)))) ∧ w' = w := by
 by_cases a : 97 ≤ c
 ·by_cases b : c ≤ 122
  ·go_enter Tryz.func165, Tryz.ntmps165
   go_wp2
   go_ret
   exact ⟨by simp [a, b], rfl⟩
  ·go_enter Tryz.func165, Tryz.ntmps165
   go_wp2
   go_ret
   exact ⟨by simp <;> omega, rfl⟩
 ·by_cases b : 48 ≤ c
  ·by_cases d : c ≤ 57
   ·go_enter Tryz.func165, Tryz.ntmps165
    go_wp2
    go_ret
    exact ⟨by simp <;> omega, rfl⟩
   ·go_enter Tryz.func165, Tryz.ntmps165
    go_wp2
    go_ret
    exact ⟨by simp <;> omega, rfl⟩
  ·go_enter Tryz.func165, Tryz.ntmps165
   go_wp2
   go_ret
   exact ⟨by simp <;> omega, rfl⟩
theorem nameByte_yes (c : Int) (w : World) (h0 : 0 ≤ c) (h1 : c ≤ 255) (h : (97 ≤ c ∧ c ≤ 122) ∨ (48 ≤ c ∧ c ≤ 57)) :
  Calls Tryz.prog 165 #[.int .u8 c] w fun e w' => e = .returned (.bool true) ∧ w' = w := by
 refine (nameByte_any c w h0 h1).mono ?_
 rintro e w' ⟨rfl, rfl⟩
 exact ⟨by simp <;> omega, rfl⟩
theorem nameByte_no (c : Int) (w : World) (h0 : 0 ≤ c) (h1 : c ≤ 255) (h : ¬ ((97 ≤ c ∧ c ≤ 122) ∨ (48 ≤ c ∧ c ≤ 57))) :
  Calls Tryz.prog 165 #[.int .u8 c] w fun e w' => e = .returned (.bool false) ∧ w' = w := by
 refine (nameByte_any c w h0 h1).mono ?_
 rintro e w' ⟨rfl, rfl⟩
 exact ⟨by simp <;> omega, rfl⟩
theorem name_any (s : ByteArray) (w : World) (hz : s.size ≤ maxLen) :
  Calls Tryz.prog 114 #[.string s] w fun e w' => e = .returned (.bool (isName s.data.toList)) ∧ w' = w := by
 unfold maxLen at hz
 by_cases h0 : 1 ≤ s.size
 ·have he := isEmpty_of s h0
  have he' : ¬ s.toList = [] := by rw [← List.isEmpty_iff, he]; decide
  by_cases h1 : s.size ≤ 8
  ·go_enter Tryz.func114, Tryz.ntmps114
   go_wp2
   go_loop [13] (fun i => ∃ k : Nat, k ≤ s.size ∧ i = .int .i64 k ∧ (s.data.toList.take k).all nameB = true) (fun i => s.size - (RowKit.intOf i).toNat)
   case atStart => exact ⟨0, Nat.zero_le _, rfl, rfl⟩
   case round =>
    obtain ⟨k, hk, rfl, hall⟩ := hrel
    by_cases hlt : k < s.size
    ·have HS : Hid (s.data.toList.take (k + 1) = s.data.toList.take k ++ [s[k]]) := take_snoc s k hlt
     have HA : Hid ((s.data.toList.take k).all nameB = true) := hall
     clear hall
     have hb : 0 ≤ (s[k].toNat : Int) ∧ (s[k].toNat : Int) ≤ 255 := by have := s[k].toNat_lt; omega
     by_cases hc : (97 ≤ (s[k].toNat : Int) ∧ (s[k].toNat : Int) ≤ 122) ∨ (48 ≤ (s[k].toNat : Int) ∧ (s[k].toNat : Int) ≤ 57)
     ·have hy := nameByte_yes s[k].toNat w hb.1 hb.2 hc
      have HC : Hid (nameB s[k] = true) := by show _ = _; unfold nameB; simp; omega
      clear hc
      go_wp2_with (go_at_call 165; refine hy.mono ?_; rintro e w1 ⟨rfl, rfl⟩)
      go_round
      case rel => exact ⟨k + 1, by omega, by go_num, by rw [HS.out, List.all_append, HA.out]; simp [HC.out]⟩
      case measure => simp [RowKit.intOf]; omega
     ·have hy := nameByte_no s[k].toNat w hb.1 hb.2 hc
      have HC : Hid (nameB s[k] = false) := by show _ = _; unfold nameB; simp; omega
      clear hc
      go_wp2_with (go_at_call 165; refine hy.mono ?_; rintro e w1 ⟨rfl, rfl⟩)
      go_ret
      exact name_bad s k _ hlt HC.out
    ·go_wp2
     go_ret
     have := name_good s k w (by omega) hall
     rw [decide_eq_true h0, decide_eq_true h1] at this
     exact this
  ·go_enter Tryz.func114, Tryz.ntmps114
   go_wp2
   go_ret
   refine ⟨?_, rfl⟩
   unfold isName
   rw [size_len, decide_eq_false h1]; simp
 ·have hs : s.data.toList = [] := List.eq_nil_of_length_eq_zero (by rw [size_len]; omega)
  have he : s = ByteArray.empty := isEmpty_nil hs
  clear hs
  subst he
  go_enter Tryz.func114, Tryz.ntmps114
  go_wp2
  go_ret
  exact ⟨rfl, rfl⟩
theorem isName_any (s : ByteArray) (w : World) (hz : s.size ≤ maxLen) :
  Calls Tryz.prog 127 #[.string s] w fun e w' => e = .returned (.bool (isName s.data.toList)) ∧ w' = w := by
 unfold maxLen at hz
 go_enter Tryz.func127, Tryz.ntmps127
 go_wp2
 go_loop [3] (fun i => ∃ k : Nat, k ≤ s.size ∧ i = .int .i64 k ∧ (s.data.toList.take k).all nameB = true) (fun i => s.size - (RowKit.intOf i).toNat)
 case atStart => exact ⟨0, Nat.zero_le _, rfl, rfl⟩
 case round =>
  obtain ⟨k, hk, rfl, hall⟩ := hrel
  by_cases hlt : k < s.size
  ·have HS : Hid (s.data.toList.take (k + 1) = s.data.toList.take k ++ [s[k]]) := take_snoc s k hlt
   have HA : Hid ((s.data.toList.take k).all nameB = true) := hall
   clear hall
   have hb : 0 ≤ (s[k].toNat : Int) ∧ (s[k].toNat : Int) ≤ 255 := by have := s[k].toNat_lt; omega
   have hcases : (s[k].toNat : Int) < 48 ∨ (48 ≤ (s[k].toNat : Int) ∧ (s[k].toNat : Int) ≤ 57) ∨ (57 < (s[k].toNat : Int) ∧ (s[k].toNat : Int) < 97) ∨ (97 ≤ (s[k].toNat : Int) ∧ (s[k].toNat : Int) ≤ 122) ∨ 122 < (s[k].toNat : Int) := by omega
   rcases hcases with hc | hc | hc | hc | hc
   ·have HC : Hid (nameB s[k] = false) := by show _ = _; unfold nameB; simp; omega
    go_wp2
    go_ret
    exact name_bad s k _ hlt HC.out
   ·have HC : Hid (nameB s[k] = true) := by show _ = _; unfold nameB; simp; omega
    obtain ⟨c1, c2⟩ := hc
    go_wp2
    go_round
    case rel => exact ⟨k + 1, by omega, by go_num, by rw [HS.out, List.all_append, HA.out]; simp [HC.out]⟩
    case measure => simp [RowKit.intOf]; omega
   ·have HC : Hid (nameB s[k] = false) := by show _ = _; unfold nameB; simp; omega
    obtain ⟨c1, c2⟩ := hc
    have b1 : decide ((s[k].toNat : Int) ≤ 57) = false := decide_eq_false (by omega)
    go_wp2
    go_ret
    exact name_bad s k _ hlt HC.out
   ·have HC : Hid (nameB s[k] = true) := by show _ = _; unfold nameB; simp; omega
    obtain ⟨c1, c2⟩ := hc
    go_wp2
    go_round
    case rel => exact ⟨k + 1, by omega, by go_num, by rw [HS.out, List.all_append, HA.out]; simp [HC.out]⟩
    case measure => simp [RowKit.intOf]; omega
   ·have HC : Hid (nameB s[k] = false) := by show _ = _; unfold nameB; simp; omega
    have b1 : decide ((s[k].toNat : Int) ≤ 57) = false := decide_eq_false (by omega)
    have b2 : decide ((s[k].toNat : Int) ≤ 122) = false := decide_eq_false (by omega)
    go_wp2
    go_ret
    exact name_bad s k _ hlt HC.out
  ·have HA : Hid ((s.data.toList.take k).all nameB = true) := hall
   clear hall
   by_cases h1 : 1 ≤ s.size
   ·go_wp2
    go_ret
    have := name_good s k w (by omega) HA.out
    rw [decide_eq_true h1] at this
    have e2 : decide ((s.size : Int) ≤ 8) = decide (s.size ≤ 8) := decide_eq_decide.2 (by omega)
    simpa [e2] using this
   ·go_wp2
    go_ret
    have := name_good s k w (by omega) HA.out
    rw [decide_eq_false h1] at this
    simpa using this
end Go.Proofs.YteomomeigbfeoaaGreatDoor
namespace Go.Proofs.YteomomeigbfeoaaGreatDoor
open Go.Lib Go.Sort
abbrev Pl := ByteArray × Int × Int
def zLt (a b : ByteArray) : Bool := decide (a.data.toList < b.data.toList)
def cmpZ (a b : ByteArray) : Int := if zLt a b then -1 else if zLt b a then 1 else 0
def or3 (a b c : Int) : Int := if a = 0 then (if b = 0 then c else b) else a
def bays (r a b : Int) : Int := if r.tmod 2 = 0 then compareInt b a else compareInt a b
def cmpP (x y : Pl) : Int := or3 (cmpZ x.1 y.1) (compareInt x.2.1 y.2.1) (bays x.2.1 x.2.2 y.2.2)
def aheadP (x y : Pl) : Bool := decide (cmpP x y < 0)
theorem zLt_irrefl (a : ByteArray) : zLt a a = false := by unfold zLt; simp [List.lt_irrefl]
theorem zLt_asymm {a b : ByteArray} (h : zLt a b = true) : zLt b a = false := by
 unfold zLt at *; simp only [decide_eq_true_eq, decide_eq_false_iff_not] at *
 exact fun h' => List.lt_irrefl _ (List.lt_trans h h')
theorem zLt_trans {a b c : ByteArray} (h : zLt a b = true) (h' : zLt b c = true) : zLt a c = true := by
 unfold zLt at *; simp only [decide_eq_true_eq] at *
 exact List.lt_trans h h'
theorem zLt_total {a b : ByteArray} (h : zLt a b = false) (h' : zLt b a = false) : a = b := by
 unfold zLt at *; simp only [decide_eq_false_iff_not, List.not_lt] at *
 have e := List.le_antisymm h' h
 cases a; cases b; simp at e; simp [e]
theorem cmpZ_self (a : ByteArray) : cmpZ a a = 0 := by unfold cmpZ; simp [zLt_irrefl]
theorem cmpZ_cases (a b : ByteArray) : (zLt a b = true ∧ zLt b a = false ∧ a ≠ b ∧ cmpZ a b = -1) ∨ (zLt a b = false ∧ zLt b a = true ∧ a ≠ b ∧ cmpZ a b = 1) ∨ (zLt a b = false ∧ zLt b a = false ∧ a = b ∧ cmpZ a b = 0) := by
 cases h1 : zLt a b with
 | true =>
  have h2 := zLt_asymm h1
  refine Or.inl ⟨rfl, h2, ?_, by unfold cmpZ; simp [h1]⟩
  rintro rfl; rw [zLt_irrefl] at h1; cases h1
 | false =>
  cases h2 : zLt b a with
  | true =>
   refine Or.inr (Or.inl ⟨rfl, rfl, ?_, by unfold cmpZ; simp [h1, h2]⟩)
   rintro rfl; rw [zLt_irrefl] at h2; cases h2
  | false => exact Or.inr (Or.inr ⟨rfl, rfl, zLt_total h1 h2, by unfold cmpZ; simp [h1, h2]⟩)
theorem cmpI_cases (a b : Int) : (a < b ∧ compareInt a b = -1) ∨ (b < a ∧ compareInt a b = 1) ∨ (a = b ∧ compareInt a b = 0) := by
 unfold compareInt
 rcases Int.lt_trichotomy a b with h | h | h
 ·exact Or.inl ⟨h, by rw [if_pos h]⟩
 ·exact Or.inr (Or.inr ⟨h, by subst h; simp⟩)
 ·exact Or.inr (Or.inl ⟨h, by rw [if_neg (by omega), if_pos h]⟩)
def aheadW (x y : Pl) : Prop := zLt x.1 y.1 = true ∨ (x.1 = y.1 ∧ (x.2.1 < y.2.1 ∨ (x.2.1 = y.2.1 ∧ ((x.2.1.tmod 2 = 0 ∧ y.2.2 < x.2.2) ∨ (x.2.1.tmod 2 ≠ 0 ∧ x.2.2 < y.2.2)))))
theorem aheadP_iff (x y : Pl) : aheadP x y = true ↔ aheadW x y := by
 obtain ⟨a, r, b⟩ := x
 obtain ⟨a', r', b'⟩ := y
 unfold aheadP aheadW cmpP or3 bays
 simp only [decide_eq_true_eq]
 rcases cmpZ_cases a a' with ⟨h1, h2, h3, h4⟩ | ⟨h1, h2, h3, h4⟩ | ⟨h1, h2, h3, h4⟩
 ·rw [h4, h1]; simp
 ·rw [h4, h1]; simp [h3]
 ·rw [h4, h1]
  subst h3
  rcases cmpI_cases r r' with ⟨k1, k2⟩ | ⟨k1, k2⟩ | ⟨k1, k2⟩
  ·rw [k2]; simp [k1]
  ·rw [k2]; simp; omega
  ·rw [k2]; subst k1
   by_cases hp : r.tmod 2 = 0
   ·rcases cmpI_cases b' b with ⟨m1, m2⟩ | ⟨m1, m2⟩ | ⟨m1, m2⟩ <;> simp [hp, m2] <;> omega
   ·rcases cmpI_cases b b' with ⟨m1, m2⟩ | ⟨m1, m2⟩ | ⟨m1, m2⟩ <;> simp [hp, m2] <;> omega
theorem aheadW_irrefl (x : Pl) : ¬ aheadW x x := by
 unfold aheadW; rw [zLt_irrefl]; simp
theorem aheadW_trans {x y z : Pl} (h : aheadW x y) (h' : aheadW y z) : aheadW x z := by
 obtain ⟨a, r, b⟩ := x
 obtain ⟨a', r', b'⟩ := y
 obtain ⟨a'', r'', b''⟩ := z
 unfold aheadW at *
 simp only at *
 rcases h with h | ⟨rfl, h⟩
 ·rcases h' with h' | ⟨rfl, h'⟩
  ·exact Or.inl (zLt_trans h h')
  ·exact Or.inl h
 ·rcases h' with h' | ⟨rfl, h'⟩
  ·exact Or.inl h'
  ·refine Or.inr ⟨rfl, ?_⟩
   rcases h with h | ⟨rfl, h⟩
   ·rcases h' with h' | ⟨rfl, h'⟩
    ·exact Or.inl (by omega)
    ·exact Or.inl h
   ·rcases h' with h' | ⟨rfl, h'⟩
    ·exact Or.inl h'
    ·refine Or.inr ⟨rfl, ?_⟩
     rcases h with ⟨p, h⟩ | ⟨p, h⟩ <;> rcases h' with ⟨p', h'⟩ | ⟨p', h'⟩
     ·exact Or.inl ⟨p, by omega⟩
     ·exact absurd p p'
     ·exact absurd p' p
     ·exact Or.inr ⟨p, by omega⟩
theorem aheadW_total (x y : Pl) : aheadW x y ∨ aheadW y x ∨ x = y := by
 obtain ⟨a, r, b⟩ := x
 obtain ⟨a', r', b'⟩ := y
 unfold aheadW
 simp only
 rcases cmpZ_cases a a' with ⟨h1, h2, h3, h4⟩ | ⟨h1, h2, h3, h4⟩ | ⟨h1, h2, h3, h4⟩
 ·exact Or.inl (Or.inl h1)
 ·exact Or.inr (Or.inl (Or.inl h2))
 ·subst h3
  rcases Int.lt_trichotomy r r' with k | k | k
  ·exact Or.inl (Or.inr ⟨rfl, Or.inl k⟩)
  ·subst k
   by_cases hp : r.tmod 2 = 0
   ·rcases Int.lt_trichotomy b b' with m | m | m
    ·exact Or.inr (Or.inl (Or.inr ⟨rfl, Or.inr ⟨rfl, Or.inl ⟨hp, m⟩⟩⟩))
    ·subst m; exact Or.inr (Or.inr rfl)
    ·exact Or.inl (Or.inr ⟨rfl, Or.inr ⟨rfl, Or.inl ⟨hp, m⟩⟩⟩)
   ·rcases Int.lt_trichotomy b b' with m | m | m
    ·exact Or.inl (Or.inr ⟨rfl, Or.inr ⟨rfl, Or.inr ⟨hp, m⟩⟩⟩)
    ·subst m; exact Or.inr (Or.inr rfl)
    ·exact Or.inr (Or.inl (Or.inr ⟨rfl, Or.inr ⟨rfl, Or.inr ⟨hp, m⟩⟩⟩))
  ·exact Or.inr (Or.inl (Or.inr ⟨rfl, Or.inl k⟩))
def well (r b : Int) : Bool := decide (1 ≤ r) && decide (r ≤ 20) && (decide (1 ≤ b) && decide (b ≤ 40))
def placeErr (x : Pl) : Nat := if isName x.1.data.toList then (if well x.2.1 x.2.2 then 0 else 2) else 5
theorem placeErr_le (x : Pl) : placeErr x ≤ 12 := by
 unfold placeErr; split
 ·split <;> decide
 ·decide
def okP (x : Pl) : Bool := isName x.1.data.toList && well x.2.1 x.2.2
theorem okP_err (x : Pl) : okP x = true ↔ placeErr x = 0 := by
 unfold okP placeErr
 cases isName x.1.data.toList <;> cases well x.2.1 x.2.2 <;> simp
theorem okP_bounds {x : Pl} (h : okP x = true) : isName x.1.data.toList = true ∧ 1 ≤ x.2.1 ∧ x.2.1 ≤ 20 ∧ 1 ≤ x.2.2 ∧ x.2.2 ≤ 40 := by
 unfold okP well at h
 simp at h
 exact ⟨h.1, h.2.1.1, h.2.1.2, h.2.2.1, h.2.2.2⟩
end Go.Proofs.YteomomeigbfeoaaGreatDoor
namespace Go.Proofs.YteomomeigbfeoaaGreatDoor
open Go.RowKit Go.Lib Go.Sort
def stp (c : UInt8) (st : List (List UInt8) × List UInt8) (b : UInt8) : List (List UInt8) × List UInt8 := if b = c then (st.1 ++ [st.2], []) else (st.1, st.2 ++ [b])
def sp (c : UInt8) (l : List UInt8) : List (List UInt8) × List UInt8 := l.foldl (stp c) ([], [])
def splitL (c : UInt8) (l : List UInt8) : List (List UInt8) := (sp c l).1 ++ [(sp c l).2]
theorem fold_gen (c : UInt8) : ∀ (l : List UInt8) (d : List (List UInt8)) (cur : List UInt8), l.foldl (stp c) (d, cur) = (d ++ (l.foldl (stp c) ([], cur)).1, (l.foldl (stp c) ([], cur)).2)
 | [], d, cur => by simp
 | b :: l, d, cur => by
  rw [List.foldl_cons, List.foldl_cons]
  by_cases h : b = c
  ·have e : ∀ d, stp c (d, cur) b = (d ++ [cur], []) := fun d => by unfold stp; rw [if_pos h]
   rw [e, e, fold_gen c l, fold_gen c l ([] ++ [cur])]; simp
  ·have e : ∀ d, stp c (d, cur) b = (d, cur ++ [b]) := fun d => by unfold stp; rw [if_neg h]
   rw [e, e, fold_gen c l]
theorem fold_none (c : UInt8) : ∀ (l : List UInt8) (cur : List UInt8), has c l = false → l.foldl (stp c) ([], cur) = ([], cur ++ l)
 | [], cur, _ => by simp
 | b :: l, cur, h => by
  unfold has at h
  simp only [List.any_cons, Bool.or_eq_false_iff] at h
  have hb : b ≠ c := by simpa using h.1
  rw [List.foldl_cons]
  have e : stp c ([], cur) b = ([], cur ++ [b]) := by unfold stp; rw [if_neg hb]
  rw [e, fold_none c l _ h.2]; simp
theorem has_parts (c : UInt8) : ∀ (l : List UInt8), has c l = true → l = pre c l ++ c :: post c l ∧ has c (pre c l) = false
 | [], h => by simp [has] at h
 | b :: l, h => by
  by_cases hb : b = c
  ·subst hb; simp [pre, post, has]
  ·have h' : has c l = true := by unfold has at *; simpa [hb] using h
   obtain ⟨e1, e2⟩ := has_parts c l h'
   have e3 : pre c (b :: l) = b :: pre c l := by unfold pre; simp [hb]
   have e4 : post c (b :: l) = post c l := by unfold post; simp [hb]
   rw [e3, e4]
   refine ⟨by rw [List.cons_append, ← e1], ?_⟩
   unfold has at *
   simp [hb]
   simpa using e2
theorem split_none {c : UInt8} {l : List UInt8} (h : has c l = false) : splitL c l = [l] := by
 unfold splitL sp; rw [fold_none c l [] h]; simp
theorem split_some {c : UInt8} {l : List UInt8} (h : has c l = true) : splitL c l = pre c l :: splitL c (post c l) := by
 obtain ⟨e1, e2⟩ := has_parts c l h
 have e : sp c l = (pre c l :: (sp c (post c l)).1, (sp c (post c l)).2) := by
  unfold sp
  conv => lhs; rw [e1]
  rw [List.foldl_append, fold_none c _ [] e2, List.foldl_cons]
  have e5 : stp c ([], [] ++ pre c l) c = ([pre c l], []) := by unfold stp; simp
  rw [e5, fold_gen]; simp
 unfold splitL
 rw [e]; simp
end Go.Proofs.YteomomeigbfeoaaGreatDoor
namespace Go.Proofs.YteomomeigbfeoaaGreatDoor
open Go.RowKit Go.Extern.Stop Go.Stop Go.Extern
theorem is_same (a : Addr) (w : World) :
  Calls Tryz.prog 106 #[.iface 295 (.pointer (some a)), .iface 295 (.pointer (some a))] w fun e w' => e = .returned (.bool true) ∧ w' = w := by
 obtain ⟨i, hi, hcmp⟩ := Option.map_eq_some_iff.1 Tryz.eComp
 obtain ⟨j, hj, hjs⟩ : ∃ j, Tryz.prog.info? 314 = some j ∧ j.size ≠ 0 := by
  rcases Tryz.eSize with h | h <;> obtain ⟨j, hj, hjs⟩ := Option.map_eq_some_iff.1 h <;> exact ⟨j, hj, by rw [hjs]; decide⟩
 have h8 := Tryz.eCallTypeOf
 have h32 := Tryz.eCallComparable
 have tT := Tryz.eTypeOfE
 have mR := Tryz.eMethodComparable
 have heq := run_eql_iface_ptr_same (P := Tryz.prog) w a Tryz.underlying40 Tryz.underlying295 hi hcmp hj
 go_enter Tryz.func106, Tryz.ntmps106
 go_wp2
 refine wp_loop_rounds 1 ?_
 rw [rounds_succ]
 go_wp2
 go_ret
 exact ⟨rfl, rfl⟩
theorem is_other (a b : Addr) (ca cb : Array Value) (ta tb : TypeId) (w : World) (hne : a ≠ b) (ha : w.heap[a.block]? = some (.cells ca ta (0, 0))) (hb : w.heap[b.block]? = some (.cells cb tb (0, 0))) :
  Calls Tryz.prog 106 #[.iface 295 (.pointer (some a)), .iface 295 (.pointer (some b))] w fun e w' => e = .returned (.bool false) ∧ w' = w := by
 obtain ⟨i, hi, hcmp⟩ := Option.map_eq_some_iff.1 Tryz.eComp
 obtain ⟨j, hj, hjs⟩ : ∃ j, Tryz.prog.info? 314 = some j ∧ j.size ≠ 0 := by
  rcases Tryz.eSize with h | h <;> obtain ⟨j, hj, hjs⟩ := Option.map_eq_some_iff.1 h <;> exact ⟨j, hj, by rw [hjs]; decide⟩
 have h8 := Tryz.eCallTypeOf
 have h32 := Tryz.eCallComparable
 have tT := Tryz.eTypeOfE
 have mR := Tryz.eMethodComparable
 have nE := Tryz.eNoIsE
 have uE := Tryz.eNoUnwrapE
 have vE := Tryz.eNoUnwrapsE
 have heq := run_eql_iface_ptr_other (P := Tryz.prog) w Tryz.underlying40 Tryz.underlying295 hi hcmp hj hjs hne ha hb
 go_enter Tryz.func106, Tryz.ntmps106
 go_wp2
 refine wp_loop_rounds 1 ?_
 rw [rounds_succ]
 go_wp2
 go_ret
 exact ⟨rfl, rfl⟩
abbrev err (a : Addr) : Value := .iface 295 (.pointer (some a))
def gOf (i : Nat) : Nat := [6, 1, 0, 7, 8, 2, 4, 5, 3, 9, 10, 11].getD i 0
structure Sent (w : World) (s : Nat → Addr) : Prop where
 cell : ∀ i, i < 12 → w.cell? ⟨gOf i, 0, none⟩ = some (err (s i))
 block : ∀ i, i < 12 → ∃ c t, w.heap[(s i).block]? = some (.cells c t (0, 0))
 inj : ∀ i j, i < 12 → j < 12 → s i = s j → i = j
def Handle (w : World) : Prop := w.cell? ⟨12, 0, none⟩ = some (.iface 249 (.agg #[.pointer (some ⟨19, 40, none⟩)]))
theorem block_lt {w : World} {b : Nat} {o : Obj} (h : w.heap[b]? = some o) : b < w.heap.size := by
 rcases Nat.lt_or_ge b w.heap.size with h' | h'
 ·exact h'
 ·simp [Array.getElem?_eq_none h'] at h
theorem Sent.below {w w' : World} {s : Nat → Addr} (h : Sent w s) (hb : Below w.heap.size w w') : Sent w' s where
 cell i hi := by rw [hb.cell (p := ⟨gOf i, 0, none⟩) (cell_lt (h.cell i hi))]; exact h.cell i hi
 block i hi := by
  obtain ⟨c, t, hc⟩ := h.block i hi
  exact ⟨c, t, by rw [hb.block _ (block_lt hc)]; exact hc⟩
 inj := h.inj
theorem Sent.cells {w : World} {s : Nat → Addr} (h : Sent w s) : w.cell? ⟨6, 0, none⟩ = some (err (s 0)) ∧ w.cell? ⟨1, 0, none⟩ = some (err (s 1)) ∧ w.cell? ⟨0, 0, none⟩ = some (err (s 2)) ∧ w.cell? ⟨7, 0, none⟩ = some (err (s 3)) ∧ w.cell? ⟨8, 0, none⟩ = some (err (s 4)) ∧ w.cell? ⟨2, 0, none⟩ = some (err (s 5)) ∧ w.cell? ⟨4, 0, none⟩ = some (err (s 6)) ∧ w.cell? ⟨5, 0, none⟩ = some (err (s 7)) ∧ w.cell? ⟨3, 0, none⟩ = some (err (s 8)) ∧ w.cell? ⟨9, 0, none⟩ = some (err (s 9)) ∧ w.cell? ⟨10, 0, none⟩ = some (err (s 10)) ∧ w.cell? ⟨11, 0, none⟩ = some (err (s 11)) :=
 ⟨h.cell 0 (by decide), h.cell 1 (by decide), h.cell 2 (by decide), h.cell 3 (by decide), h.cell 4 (by decide), h.cell 5 (by decide), h.cell 6 (by decide), h.cell 7 (by decide), h.cell 8 (by decide), h.cell 9 (by decide), h.cell 10 (by decide), h.cell 11 (by decide)⟩
theorem Handle.below {w w' : World} (h : Handle w) (hb : Below w.heap.size w w') : Handle w' := by
 unfold Handle at *
 rw [hb.cell (p := ⟨12, 0, none⟩) (cell_lt h)]; exact h
theorem code_nil (w : World) : Calls Tryz.prog 67 #[.nilIface] w fun e w' => e = .returned (.tuple #[.int .i64 0, .int .i64 (-1)]) ∧ w' = w := by
 go_enter Tryz.func67, Tryz.ntmps67
 go_wp2
 go_ret2
 exact ⟨rfl, rfl⟩
theorem code_err (a : Addr) (w : World) (s : Nat → Addr) (hs : Sent w s) (hh : Handle w) (ca : Array Value) (ta : TypeId) (ha : w.heap[a.block]? = some (.cells ca ta (0, 0))) :
  Calls Tryz.prog 67 #[err a] w fun e w' => (∃ c : Int, e = .returned (.tuple #[.int .i64 c, .int .i64 (-1)]) ∧ ((∃ i, i < 12 ∧ s i = a ∧ c = i + 1) ∨ ((∀ i, i < 12 → s i ≠ a) ∧ c = -1))) ∧ Below w.heap.size w w' := by
 have hsz := cell_lt hh
 have hA : ∀ t, Calls Tryz.prog 105 #[err a, .iface 173 (.pointer (some t))] (w.alloc (.cells #[.pointer none] 126)) fun ev w' => ev = .returned (.bool false) ∧ Below (w.alloc (.cells #[.pointer none] 126)).heap.size (w.alloc (.cells #[.pointer none] 126)) w' := fun t => by
  refine (as_miss a t _ (hh.below (Below.refl _ _ |>.alloc (Nat.le_refl _) _))).mono ?_
  rintro e w' ⟨rfl, rfl⟩
  exact ⟨rfl, (((Below.refl _ _).alloc (by simp) _).alloc (by simp) _).alloc (by simp) _⟩
 go_enter Tryz.func67, Tryz.ntmps67
 go_wp2_with (go_at_call 105; refine (hA _).mono ?_; rintro e w1 ⟨rfl, hb⟩; have hb0 : Below w.heap.size w w1 := ((Below.refl _ _).alloc (Nat.le_refl _) _).trans (hb.mono (by simp)); obtain ⟨c0, c1, c2, c3, c4, c5, c6, c7, c8, c9, c10, c11⟩ := (hs.below hb0).cells)
 have hs2 : Sent (w1.alloc (.cells #[err (s 0), err (s 1), err (s 2), err (s 3), err (s 4), err (s 5), err (s 6), err (s 7), err (s 8), err (s 9), err (s 10), err (s 11)] 40)) s := (hs.below hb0).below ((Below.refl _ _).alloc (Nat.le_refl _) _)
 have hb2 : Below w.heap.size w (w1.alloc (.cells #[err (s 0), err (s 1), err (s 2), err (s 3), err (s 4), err (s 5), err (s 6), err (s 7), err (s 8), err (s 9), err (s 10), err (s 11)] 40)) := hb0.alloc hb0.size _
 have hk2 : ∀ k, k < 12 → (w1.alloc (.cells #[err (s 0), err (s 1), err (s 2), err (s 3), err (s 4), err (s 5), err (s 6), err (s 7), err (s 8), err (s 9), err (s 10), err (s 11)] 40)).cell? ⟨w1.heap.size, k, none⟩ = some (err (s k)) := fun k hk => by
  rcases k with _ | _ | _ | _ | _ | _ | _ | _ | _ | _ | _ | _ | k <;> first | omega | simp
 have ha2 : (w1.alloc (.cells #[err (s 0), err (s 1), err (s 2), err (s 3), err (s 4), err (s 5), err (s 6), err (s 7), err (s 8), err (s 9), err (s 10), err (s 11)] 40)).heap[a.block]? = some (.cells ca ta (0, 0)) := by rw [hb2.block _ (block_lt ha)]; exact ha
 clear c0 c1 c2 c3 c4 c5 c6 c7 c8 c9 c10 c11 hb hA
 generalize (w1.alloc (.cells #[err (s 0), err (s 1), err (s 2), err (s 3), err (s 4), err (s 5), err (s 6), err (s 7), err (s 8), err (s 9), err (s 10), err (s 11)] 40)) = W2 at hs2 hb2 hk2 ha2 ⊢
 go_loop [3, 30] (fun c i => ∃ k : Nat, k ≤ 12 ∧ c = .int .i64 (-1) ∧ i = .int .i64 k ∧ ∀ j, j < k → s j ≠ a) (fun _ i => 12 - (intOf i).toNat)
 case atStart => exact ⟨0, by omega, rfl, rfl, fun j hj => by omega⟩
 case round =>
  obtain ⟨k, hk, rfl, rfl, hno⟩ := hrel
  by_cases hlt : k < 12
  ·have hck := hk2 k hlt
   obtain ⟨cb, tb, hbk⟩ := hs2.block k hlt
   by_cases he : s k = a
   ·go_wp2_with (go_at_call 106; refine (is_same a _).mono ?_; rintro e w' ⟨rfl, rfl⟩)
    go_ret2
    exact ⟨⟨_, rfl, Or.inl ⟨k, hlt, he, rfl⟩⟩, hb2⟩
   ·go_wp2_with (go_at_call 106; refine (is_other a (s k) ca cb ta tb _ (fun h => he h.symm) ha2 hbk).mono ?_; rintro e w' ⟨rfl, rfl⟩)
    go_round
    case rel => exact ⟨k + 1, by omega, rfl, by go_num, fun j hj => by
     rcases Nat.lt_succ_iff_lt_or_eq.1 hj with h | rfl
     ·exact hno j h
     ·exact he⟩
    case measure => simp [intOf]; omega
  ·go_wp2
   go_ret2
   exact ⟨⟨_, rfl, Or.inr ⟨fun i hi => hno i (by omega), rfl⟩⟩, hb2⟩
theorem code_sent (i : Nat) (hi : i < 12) (w : World) (s : Nat → Addr) (hs : Sent w s) (hh : Handle w) :
  Calls Tryz.prog 67 #[err (s i)] w fun e w' => e = .returned (.tuple #[.int .i64 (i + 1 : Nat), .int .i64 (-1)]) ∧ Below w.heap.size w w' := by
 obtain ⟨ca, ta, ha⟩ := hs.block i hi
 refine (code_err (s i) w s hs hh ca ta ha).mono ?_
 rintro e w' ⟨⟨c, rfl, ⟨j, hj, hij, rfl⟩ | ⟨hno, rfl⟩⟩, hb⟩
 ·obtain rfl := hs.inj j i hj hi hij
  exact ⟨by simp, hb⟩
 ·exact absurd rfl (hno i hi)
end Go.Proofs.YteomomeigbfeoaaGreatDoor
namespace Go.Proofs.YteomomeigbfeoaaGreatDoor
open Go.RowKit Go.Lib
theorem scut_miss (s : ByteArray) (c : UInt8) (w : World) (h : has c s.data.toList = false) :
  Calls Tryz.prog 70 #[.string s, .string ⟨#[c]⟩] w fun e w' => e = .returned (.tuple #[.string s, .string ByteArray.empty, .bool false]) ∧ w' = w := by
 have hi := Tryz.stringslite_Index_one s c w
 rw [indexByte_eq, h, if_neg (by decide)] at hi
 have hc : Calls Tryz.prog 110 #[.string s, .string ⟨#[c]⟩] w fun e w' => e = .returned (.tuple #[.string s, .string ByteArray.empty, .bool false]) ∧ w' = w := by
  go_enter Tryz.func110, Tryz.ntmps110
  go_wp2_with (go_at_call 162; refine hi.mono ?_; rintro e w1 ⟨rfl, rfl⟩)
  go_ret3
  exact ⟨rfl, rfl⟩
 clear hi
 go_enter Tryz.func70, Tryz.ntmps70
 go_wp2_with (go_at_call 110; refine hc.mono ?_; rintro e w1 ⟨rfl, rfl⟩)
 go_ret3
 exact ⟨rfl, rfl⟩
theorem scut_hit (s : ByteArray) (c : UInt8) (w : World) (hz : s.size ≤ maxLen) (h : has c s.data.toList = true) :
  Calls Tryz.prog 70 #[.string s, .string ⟨#[c]⟩] w fun e w' => e = .returned (.tuple #[.string ⟨(pre c s.data.toList).toArray⟩, .string ⟨(post c s.data.toList).toArray⟩, .bool true]) ∧ ∃ n, w' = w.drewN n := by
 have hi := Tryz.stringslite_Index_one s c w
 rw [indexByte_eq, h, if_pos rfl] at hi
 have hl := pre_length_lt c s.data.toList h
 rw [size_len] at hl
 have e1 : (⟨(pre c s.data.toList).toArray⟩ : ByteArray) = s.extract 0 (pre c s.data.toList).length := by
  rw [extract_eq]; simp [take_pre]
 have e2 : (⟨(post c s.data.toList).toArray⟩ : ByteArray) = s.extract ((pre c s.data.toList).length + 1) s.size := by
  rw [extract_eq, drop_pre, List.take_of_length_le]
  rw [← drop_pre, List.length_drop, size_len]; exact Nat.le_refl _
 rw [e1, e2]
 clear e1 e2 h
 unfold maxLen at hz
 generalize (pre c s.data.toList).length = i at *
 have hc : Calls Tryz.prog 110 #[.string s, .string ⟨#[c]⟩] w fun e w' => e = .returned (.tuple #[.string (s.extract 0 i), .string (s.extract (i + 1) s.size), .bool true]) ∧ ∃ n, w' = w.drewN n := by
  go_enter Tryz.func110, Tryz.ntmps110
  go_wp2_with (go_at_call 162; refine hi.mono ?_; rintro e w1 ⟨rfl, rfl⟩)
  go_quiet (fail)
  go_wp2
  go_ret3
  exact ⟨rfl, _, rfl⟩
 clear hi
 go_enter Tryz.func70, Tryz.ntmps70
 go_wp2_with (go_at_call 110; refine hc.mono ?_; rintro e w1 ⟨rfl, n, rfl⟩)
 go_ret3
 exact ⟨rfl, _, rfl⟩
end Go.Proofs.YteomomeigbfeoaaGreatDoor
namespace Go.Proofs.YteomomeigbfeoaaGreatDoor
open Go.ChangeShapes Go.WideShapes Go.RowKit
theorem Tryz.own : ownKnob Tryz.prog.godebug = none := by kernel_rfl
theorem Tryz.cellsE : Tryz.prog.cellsOf 314 = 1 := by kernel_rfl
theorem Tryz.cellsS : Tryz.prog.cellsOf 9 = 1 := by kernel_rfl
theorem Tryz.star : "*" ++ "errors.errorString" = "*errors.errorString" := by decide
theorem Tryz.rowE (u : TypeId) (h : Tryz.prog.typeName? 3 u = some "*errors.errorString") : u = 295 :=
 typeName_ptr_named (nm := "errors.errorString") (by rw [Tryz.star]; kernel_rfl) (by kernel_rfl) (by decide) u (by rw [Tryz.star]; exact h)
abbrev errD (text : List UInt8) : DataW Unit := .iface "*errors.errorString" (.ptr (.agg [.lit (.string text)]))
def SentRow (W : World) (g : Nat) (a : Addr) : Prop := W.cell? ⟨g, 0, none⟩ = some (err a) ∧ ∃ c t, W.heap[a.block]? = some (.cells c t (0, 0))
theorem sents_of_laid {W : World} : ∀ (l : List (Nat × String × List UInt8)) (ps : List MemPlace), (∀ x ∈ l, Tryz.prog.globalNamed x.2.1 = some x.1 ∧ (Tryz.prog.globals[x.1]?).map (·.type) = some 40) →
  DataW.LaidVars Tryz.prog W (l.map fun x => (x.2.1, errD x.2.2)) ps → ps.Nodup →
  (∀ b off, MemPlace.cell b off ∈ ps → (∃ c t, W.heap[b]? = some (.cells c t (0, 0))) ∧ ∀ u v, W.cell? ⟨b, off, none⟩ = some (.iface u v) → Value.okWide Tryz.prog W .any 0 u v) →
  ∃ al : List Addr, al.length = l.length ∧ (∀ a ∈ al, MemPlace.cell a.block a.off ∈ ps) ∧ al.Nodup ∧ ∀ i, i < l.length → SentRow W (l.getD i (0, default, [])).1 (al.getD i ⟨0, 0, none⟩)
 | [], _, _, _, _, _ => ⟨[], rfl, (fun a h => by cases h), List.nodup_nil, fun i h => absurd h (Nat.not_lt_zero _)⟩
 | x :: l, ps, hx, hl, hnd, hrows => by
  obtain ⟨g, t, cs, fuel, p, q, hg, ht, hv, hd, hq, rfl⟩ := hl
  obtain ⟨hg', ht'⟩ := hx x (List.mem_cons_self ..)
  obtain rfl := Option.some.inj (hg'.symm.trans hg)
  obtain rfl := Option.some.inj (ht'.symm.trans ht)
  obtain ⟨cl⟩ := cs
  have ok : ∀ u v, cl = [.iface u v] → Value.okWide Tryz.prog W .any 0 u v := fun u v e => by
   subst e
   exact (hrows x.1 0 (by simp [MemPlace.row])).2 u v (by simpa using World.var?_cell hg hv 0)
  obtain ⟨a, s0, rfl, hc0, hs0, hz0, rfl⟩ := errorString_of_trod Tryz.underlying40 Tryz.rowE Tryz.underlying295 Tryz.underlying314 rfl rfl Tryz.underlying9 Tryz.cellsE Tryz.cellsS hd ok
  obtain ⟨al, hlen, hmem, hasnd, hrow⟩ := sents_of_laid l q (fun y hy => hx y (List.mem_cons_of_mem _ hy)) hq (List.Nodup.sublist (List.sublist_append_right _ _) hnd) (fun b off hm => hrows b off (List.mem_append_right _ hm))
  have hain : MemPlace.cell a.block a.off ∈ MemPlace.row ⟨x.1, 0, none⟩ (⟨[Value.iface 295 (Value.pointer (some a))]⟩ : Array Value).size ++ MemPlace.row a 1 := List.mem_append_right _ (by simp [MemPlace.row])
  refine ⟨a :: al, by simp [hlen], ?_, ?_, ?_⟩
  ·intro b hb
   rcases List.mem_cons.1 hb with rfl | hb
   ·exact List.mem_append_left _ hain
   ·exact List.mem_append_right _ (hmem b hb)
  ·refine List.nodup_cons.2 ⟨fun hin => ?_, hasnd⟩
   exact (List.nodup_append.1 hnd).2.2 _ hain _ (hmem a hin) rfl
  ·intro i hi
   rcases i with _ | i
   ·exact ⟨by simpa using World.var?_cell hg hv 0, (hrows a.block a.off (List.mem_append_left _ hain)).1⟩
   ·simpa using hrow i (by simpa using hi)
def sentList : List (Nat × String × List UInt8) := [
 (6, "tithebarn/api.ErrText", [116, 105, 116, 104, 101, 98, 97, 114, 110, 58, 32, 116, 101, 120, 116]),
 (1, "tithebarn/api.ErrBound", [116, 105, 116, 104, 101, 98, 97, 114, 110, 58, 32, 98, 111, 117, 110, 100]),
 (0, "tithebarn/api.ErrShape", [116, 105, 116, 104, 101, 98, 97, 114, 110, 58, 32, 115, 104, 97, 112, 101]),
 (7, "tithebarn/api.ErrKind", [116, 105, 116, 104, 101, 98, 97, 114, 110, 58, 32, 107, 105, 110, 100]),
 (8, "tithebarn/api.ErrName", [116, 105, 116, 104, 101, 98, 97, 114, 110, 58, 32, 110, 97, 109, 101]),
 (2, "tithebarn/api.ErrNone", [116, 105, 116, 104, 101, 98, 97, 114, 110, 58, 32, 110, 111, 110, 101]),
 (4, "tithebarn/api.ErrExist", [116, 105, 116, 104, 101, 98, 97, 114, 110, 58, 32, 101, 120, 105, 115, 116]),
 (5, "tithebarn/api.ErrFull", [116, 105, 116, 104, 101, 98, 97, 114, 110, 58, 32, 102, 117, 108, 108]),
 (3, "tithebarn/api.ErrShort", [116, 105, 116, 104, 101, 98, 97, 114, 110, 58, 32, 115, 104, 111, 114, 116]),
 (9, "tithebarn/api.ErrOrder", [116, 105, 116, 104, 101, 98, 97, 114, 110, 58, 32, 111, 114, 100, 101, 114]),
 (10, "tithebarn/api.ErrState", [116, 105, 116, 104, 101, 98, 97, 114, 110, 58, 32, 115, 116, 97, 116, 101]),
 (11, "tithebarn/api.ErrOff", [116, 105, 116, 104, 101, 98, 97, 114, 110, 58, 32, 111, 102, 102])]
theorem sentList_ok : (sentList.all fun x => decide (Tryz.prog.globalNamed x.2.1 = some x.1) && decide ((Tryz.prog.globals[x.1]?).map (·.type) = some 40)) = true := by kernel_rfl
theorem sent_of_laid {W : World} (h : laidMet Tryz.prog (sentList.map fun x => (x.2.1, errD x.2.2)) W) : ∃ s, Sent W s := by
 obtain ⟨ps, hl, hnd, hrows⟩ := h
 obtain ⟨al, hlen, _, hasnd, hrow⟩ := sents_of_laid sentList ps (fun x hx => by
  have := List.all_eq_true.1 sentList_ok x hx
  simpa using this) hl hnd hrows
 have h12 : al.length = 12 := hlen
 refine ⟨fun i => al.getD i ⟨0, 0, none⟩, ?_, fun i hi => (hrow i hi).2, ?_⟩
 ·intro i hi
  have hr := (hrow i hi).1
  rcases i with _ | _ | _ | _ | _ | _ | _ | _ | _ | _ | _ | _ | i
  all_goals first | exact hr | omega
 ·intro i j hi hj he
  have e1 : al.getD i ⟨0, 0, none⟩ = al[i] := by rw [List.getD_eq_getElem?_getD, List.getElem?_eq_getElem (by omega)]; rfl
  have e2 : al.getD j ⟨0, 0, none⟩ = al[j] := by rw [List.getD_eq_getElem?_getD, List.getElem?_eq_getElem (by omega)]; rfl
  simp only [e1, e2] at he
  exact (List.getElem_inj hasnd).1 he
theorem Tryz.etG : Tryz.prog.globalNamed "errors.errorType" = some 12 := by kernel_rfl
theorem Tryz.etR : (Tryz.prog.cutTypes.find? (·.1 == "internal/reflectlite.rtype")).map (·.2) = some 249 := by kernel_rfl
theorem Tryz.etOne : ((List.range 326).filter fun t => Tryz.prog.rowNamed t [101, 114, 114, 111, 114]) = [40] := by kernel_rfl
theorem Tryz.etSize : Tryz.prog.types.size = 326 := by kernel_rfl
theorem handle_of_laid {W : World} (h : handlesMet Tryz.prog [("errors.errorType", Rows.laid_errors_errorType)] W) : Handle W := by
 obtain ⟨name, u, ty, e1, e2, e3, e4, e5⟩ := h _ (List.mem_singleton.2 rfl)
 have en : name = [101, 114, 114, 111, 114] := (Option.some.inj e1).symm
 subst en
 obtain rfl := Option.some.inj (Tryz.etR.symm.trans e2)
 have hm : ty ∈ (List.range 326).filter fun t => Tryz.prog.rowNamed t [101, 114, 114, 111, 114] := List.mem_filter.2 ⟨List.mem_range.2 (by rw [← Tryz.etSize]; exact e3), e4⟩
 rw [Tryz.etOne] at hm
 obtain rfl := List.mem_singleton.1 hm
 have hh : typeHandle Tryz.prog 40 = .pointer (some ⟨19, 40, none⟩) := by kernel_rfl
 rw [hh] at e5
 unfold Handle
 simpa using World.var?_cell Tryz.etG e5 0
end Go.Proofs.YteomomeigbfeoaaGreatDoor
