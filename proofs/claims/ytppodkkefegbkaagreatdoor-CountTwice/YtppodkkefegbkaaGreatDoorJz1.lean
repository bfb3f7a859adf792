/-
 Plain mathematics of numbers as text and of pieces as cases and pieces: what is written is read. No program stands here.
-/
import Derived.Lib.ItoaNum
import Derived.Lib.IndexLaws
import Derived.Test.YtppodkkefegbkaaGreatDoorProg
import Derived.Test.YtppodkkefegbkaaGreatDoorShelf
import Derived.WalkKit
import Derived.BigQuiet
import Derived.WalkSmall
import Derived.Below
import Derived.Test.YtppodkkefegbkaaGreatDoorErrs
import Derived.Maps.RangeWalk
import Derived.WideKeyEntry
import Derived.Lib.SmallJoins
import Derived.OwnWalk
set_option maxRecDepth 100000
set_option maxHeartbeats 16000000
namespace Go.Proofs.YtppodkkefegbkaaGreatDoor
open Go.Lib
/- a text without a sign, and cut at its first one -/
def pre (c : UInt8) (l : List UInt8) : List UInt8 := l.takeWhile (· != c)
def post (c : UInt8) (l : List UInt8) : List UInt8 := (l.dropWhile (· != c)).drop 1
def has (c : UInt8) (l : List UInt8) : Bool := l.any (· == c)
/- pieces -/
def pw (p : Int) : Bool := decide (1 ≤ p) && decide (p ≤ 1000)
end Go.Proofs.YtppodkkefegbkaaGreatDoor
namespace Go.Proofs.YtppodkkefegbkaaGreatDoor
open Go.RowKit Go.Lib
theorem take_snoc (s : ByteArray) (k : Nat) (h : k < s.size) : s.data.toList.take (k + 1) = s.data.toList.take k ++ [s[k]] := by
 rw [List.take_succ_eq_append_getElem (by simpa using h)]; rfl
theorem isEmpty_of (s : ByteArray) (h : 1 ≤ s.size) : s.toList.isEmpty = false := by
 rw [← decide_eq_emptyBytes]
 apply decide_eq_false
 rintro rfl
 exact absurd h (by decide)
theorem size_len (s : ByteArray) : s.data.toList.length = s.size := (Lib.size_eq s).symm
end Go.Proofs.YtppodkkefegbkaaGreatDoor
namespace Go.Proofs.YtppodkkefegbkaaGreatDoor
open Go.RowKit Go.Extern.Stop Go.Stop Go.Extern
theorem is_same (a : Addr) (w : World) :
  Calls Tryz.prog 75 #[.iface 225 (.pointer (some a)), .iface 225 (.pointer (some a))] w fun e w' => e = .returned (.bool true) ∧ w' = w := by
 obtain ⟨i, hi, hcmp⟩ := Option.map_eq_some_iff.1 Tryz.eComp
 obtain ⟨j, hj, hjs⟩ : ∃ j, Tryz.prog.info? 246 = some j ∧ j.size ≠ 0 := by
  rcases Tryz.eSize with h | h <;> obtain ⟨j, hj, hjs⟩ := Option.map_eq_some_iff.1 h <;> exact ⟨j, hj, by rw [hjs]; decide⟩
 have h8 := Tryz.eCallTypeOf
 have h32 := Tryz.eCallComparable
 have tT := Tryz.eTypeOfE
 have mR := Tryz.eMethodComparable
 have heq := run_eql_iface_ptr_same (P := Tryz.prog) w a Tryz.underlying32 Tryz.underlying225 hi hcmp hj
 go_enter Tryz.func75, Tryz.ntmps75
 go_wp2
 refine wp_loop_rounds 1 ?_
 rw [rounds_succ]
 go_wp2
 go_ret
 exact ⟨rfl, rfl⟩
theorem is_other (a b : Addr) (ca cb : Array Value) (ta tb : TypeId) (w : World) (hne : a ≠ b) (ha : w.heap[a.block]? = some (.cells ca ta (0, 0))) (hb : w.heap[b.block]? = some (.cells cb tb (0, 0))) :
  Calls Tryz.prog 75 #[.iface 225 (.pointer (some a)), .iface 225 (.pointer (some b))] w fun e w' => e = .returned (.bool false) ∧ w' = w := by
 obtain ⟨i, hi, hcmp⟩ := Option.map_eq_some_iff.1 Tryz.eComp
 obtain ⟨j, hj, hjs⟩ : ∃ j, Tryz.prog.info? 246 = some j ∧ j.size ≠ 0 := by
  rcases Tryz.eSize with h | h <;> obtain ⟨j, hj, hjs⟩ := Option.map_eq_some_iff.1 h <;> exact ⟨j, hj, by rw [hjs]; decide⟩
 have h8 := Tryz.eCallTypeOf
 have h32 := Tryz.eCallComparable
 have tT := Tryz.eTypeOfE
 have mR := Tryz.eMethodComparable
 have nE := Tryz.eNoIsE
 have uE := Tryz.eNoUnwrapE
 have vE := Tryz.eNoUnwrapsE
 have heq := run_eql_iface_ptr_other (P := Tryz.prog) w Tryz.underlying32 Tryz.underlying225 hi hcmp hj hjs hne ha hb
 go_enter Tryz.func75, Tryz.ntmps75
 go_wp2
 refine wp_loop_rounds 1 ?_
 rw [rounds_succ]
 go_wp2
 go_ret
 exact ⟨rfl, rfl⟩
end Go.Proofs.YtppodkkefegbkaaGreatDoor
namespace Go.Proofs.YtppodkkefegbkaaGreatDoor
open Go.RowKit (Below)
open Go.MapKept Go.ChangeMaps
open Go.Maps (Keyed)
abbrev Ent := Value × Value
def ents (es : Array MapEntry) : List Ent := es.toList.map fun x => (x.key, x.val)
def MapL (P : Program) (k : TypeId) (w : World) (b : Nat) (L : List Ent) : Prop :=
 ∃ es clock, w.heap[b]? = some (.map es clock) ∧ Stamped es clock ∧ (∀ x ∈ es.toList, ∃ l, keyOf P k x.key = some l) ∧ (ents es).Perm L
def RangeL (P : Program) (k : TypeId) (w : World) (b r : Nat) (L T : List Ent) : Prop :=
 ∃ es clock since seen c0, w.heap[b]? = some (.map es clock) ∧ Stamped es clock ∧ (∀ x ∈ es.toList, ∃ l, keyOf P k x.key = some l) ∧ (ents es).Perm L ∧
  w.heap[r]? = some (.mapIter (some b) since seen c0) ∧ (∀ x ∈ es.toList, x.born < since) ∧ (ents (leftOf es seen)).Perm T ∧ since ≤ c0 ∧ since ≤ clock
variable {P : Program} {k : TypeId} {w : World} {b r : Nat} {L T : List Ent}
theorem MapL.perm (h : MapL P k w b L) {L' : List Ent} (hp : L.Perm L') : MapL P k w b L' := by
 obtain ⟨es, clock, hb, hs, hk, hL⟩ := h
 exact ⟨es, clock, hb, hs, hk, hL.trans hp⟩
theorem MapL.lt (h : MapL P k w b L) : b < w.heap.size := by
 obtain ⟨es, clock, hb, _⟩ := h
 exact (Array.getElem?_eq_some_iff.1 hb).1
theorem MapL.of_block (h : MapL P k w b L) {w' : World} (he : w'.heap[b]? = w.heap[b]?) : MapL P k w' b L := by
 obtain ⟨es, clock, hb, rest⟩ := h
 exact ⟨es, clock, he.trans hb, rest⟩
theorem MapL.kept (h : MapL P k w b L) {w' : World} {row : Option Nat} (hg : w.grownBy w' row) (hne : some b ≠ row) : MapL P k w' b L := h.of_block (hg.block b h.lt hne)
theorem MapL.below (h : MapL P k w b L) {w' : World} {B : Nat} (hb : Below B w w') (hB : b < B) : MapL P k w' b L := h.of_block (hb.block b hB)
theorem MapL.made (P : Program) (k : TypeId) (w : World) : MapL P k (w.alloc (.map #[] 0)) w.heap.size [] :=
 ⟨#[], 0, Go.heap_alloc_new w _, stamped_empty 0, by simp, by simp [ents]⟩
theorem MapL.nodup (h : MapL P k w b L) : (L.map (·.1)).Nodup := by
 obtain ⟨es, clock, hb, hs, hk, hL⟩ := h
 refine (hL.map _).nodup_iff.1 ?_
 simpa [ents, Function.comp_def] using hs.2.2
theorem MapL.keys (h : MapL P k w b L) : ∀ x ∈ L, ∃ l, keyOf P k x.1 = some l := by
 obtain ⟨es, clock, hb, hs, hk, hL⟩ := h
 intro x hx
 obtain ⟨y, hy, rfl⟩ := List.mem_map.1 (hL.mem_iff.2 hx)
 exact hk y hy
theorem MapL.size_eq (h : MapL P k w b L) {es : Array MapEntry} {clock : Nat} (hb : w.heap[b]? = some (.map es clock)) : es.size = L.length := by
 obtain ⟨es', clock', hb', hs, hk, hL⟩ := h
 rw [hb] at hb'
 cases hb'
 have := hL.length_eq
 simpa [ents] using this
theorem MapL.ne_of_cells (h : MapL P k w b L) {p : Addr} {v : Value} (hc : w.cell? p = some v) : p.block ≠ b := by
 obtain ⟨es, clock, hb, _⟩ := h
 intro e
 subst e
 simp [World.cell?, hb] at hc
theorem turned_block {w w' : World} {b q : Nat} (h : w.mapTurned w' b) (hq : q ≠ b) : w'.heap[q]? = w.heap[q]? := by
 obtain ⟨es, clock, es', clock', hb, rfl⟩ := h
 exact heap_setBlock_other hb _ hq
theorem turned_cell {w w' : World} {b : Nat} {p : Addr} (h : w.mapTurned w' b) (hq : p.block ≠ b) : w'.cell? p = w.cell? p := World.cell?_of_block (turned_block h hq)
theorem turned_size {w w' : World} {b : Nat} (h : w.mapTurned w' b) : w'.heap.size = w.heap.size := by
 obtain ⟨es, clock, es', clock', hb, rfl⟩ := h
 simp [setBlock]
section
variable {t e : TypeId} (K : Keyed P k) (ht : P.underlying t = some (.map k e)) {key : Value} {kl : Lit} (hkey : keyOf P k key = some kl)
include K ht hkey
theorem MapL.look_hit (h : MapL P k w b L) {v : Value} (hm : (key, v) ∈ L) : (Instr.lookup t (.map (some b)) key false).run P w = .ok v w := by
 obtain ⟨es, clock, hb, hs, hk, hL⟩ := h
 obtain ⟨y, hy, ey⟩ := List.mem_map.1 (hL.mem_iff.2 hm)
 cases ey
 rcases K.find w hkey es.toList hk with ⟨f1, f2⟩ | ⟨j, e0, f1, f2, f3⟩
 ·exact absurd rfl (f2 y hy)
 ·have : e0 = y := entry_eq_of_key ((stamped_iff es clock).1 hs).2.2 (List.mem_of_getElem? f2) hy f3
  subst this
  simp [Instr.lookup, run_underlying ht, MapKept.run_getObj_map hb, K.check w _ hkey, f1, Result.andThen]
theorem MapL.look_miss (h : MapL P k w b L) {z : Value} (hz : (zeroValue e).run P w = .ok z w) (hm : ∀ v, (key, v) ∉ L) : (Instr.lookup t (.map (some b)) key false).run P w = .ok z w := by
 obtain ⟨es, clock, hb, hs, hk, hL⟩ := h
 rcases K.find w hkey es.toList hk with ⟨f1, f2⟩ | ⟨j, e0, f1, f2, f3⟩
 ·simp [Instr.lookup, run_underlying ht, MapKept.run_getObj_map hb, K.check w _ hkey, f1, hz, Result.andThen]
 ·exact absurd (hL.mem_iff.1 (List.mem_map.2 ⟨e0, List.mem_of_getElem? f2, by rw [f3]⟩)) (hm e0.val)
theorem MapL.store_old (h : MapL P k w b L) (v : Value) {u : Value} {L0 : List Ent} (hm : L.Perm ((key, u) :: L0)) : ∃ w', (Instr.mapUpdate t (.map (some b)) key v).run P w = .ok () w' ∧ MapL P k w' b ((key, v) :: L0) ∧ w.mapTurned w' b := by
 obtain ⟨es, clock, hb, hs, hk, hL⟩ := h
 obtain ⟨y, hy, ey⟩ := List.mem_map.1 ((hL.trans hm).mem_iff.2 (List.mem_cons_self ..))
 cases ey
 rcases K.find w hkey es.toList hk with ⟨f1, f2⟩ | ⟨j, e0, f1, f2, f3⟩
 ·exact absurd rfl (f2 y hy)
 ·obtain rfl : e0 = y := entry_eq_of_key ((stamped_iff es clock).1 hs).2.2 (List.mem_of_getElem? f2) hy f3
  have hj : es[j]? = some e0 := by simpa using f2
  have hjl : j < es.toList.length := (List.getElem?_eq_some_iff.1 f2).1
  have hlist : (es.modify j (fun e' => { e' with key := e0.key, val := v })).toList = es.toList.set j { e0 with key := e0.key, val := v } := by rw [Array.toList_modify, modify_eq_set _ _ _ _ f2]
  refine ⟨setBlock w b (.map (es.modify j (fun e' => { e' with key := e0.key, val := v })) clock), ?_, ⟨_, _, heap_setBlock_same hb _, stamped_modify hs _ _ (fun _ _ => rfl) (fun e' _ he' => by rw [hj] at he'; cases he'; rfl), ?_, ?_⟩, ⟨es, clock, _, _, hb, rfl⟩⟩
  ·simp [Instr.mapUpdate, run_underlying ht, MapKept.run_getObj_map hb, K.check w false hkey, f1, hj, K.stays w hkey, MapKept.run_setObj_map _ hb, Result.andThen, setBlock]
  ·intro x hx
   rw [hlist] at hx
   rcases List.mem_or_eq_of_mem_set hx with h | rfl
   ·exact hk x h
   ·exact ⟨_, hkey⟩
  ·unfold ents
   rw [hlist, List.map_set]
   refine (set_perm _ _ (by simpa using hjl) _).trans (List.Perm.cons _ ?_)
   have h1 : (ents es).Perm ((e0.key, e0.val) :: (ents es).eraseIdx j) := by
    have hget : (ents es)[j]? = some (e0.key, e0.val) := by unfold ents; rw [List.getElem?_map, f2]; rfl
    obtain ⟨hlt, hget'⟩ := List.getElem?_eq_some_iff.1 hget
    have := set_perm (ents es) j hlt (e0.key, e0.val)
    rwa [← hget', List.set_getElem_self, hget'] at this
   exact (h1.symm.trans (hL.trans hm)).cons_inv
theorem MapL.drop (h : MapL P k w b L) {u : Value} {L0 : List Ent} (hm : L.Perm ((key, u) :: L0)) : ∃ w', (∀ ty, (Builtin.delete_ #[t, k] ty #[.map (some b), key]).run P w = .ok (.tuple #[]) w') ∧ MapL P k w' b L0 ∧ w.mapTurned w' b := by
 obtain ⟨es, clock, hb, hs, hk, hL⟩ := h
 obtain ⟨y, hy, ey⟩ := List.mem_map.1 ((hL.trans hm).mem_iff.2 (List.mem_cons_self ..))
 cases ey
 rcases K.find w hkey es.toList hk with ⟨f1, f2⟩ | ⟨j, e0, f1, f2, f3⟩
 ·exact absurd rfl (f2 y hy)
 ·obtain rfl : e0 = y := entry_eq_of_key ((stamped_iff es clock).1 hs).2.2 (List.mem_of_getElem? f2) hy f3
  have hjl : j < es.toList.length := (List.getElem?_eq_some_iff.1 f2).1
  have hjs : j < es.size := by simpa using hjl
  have hsub : (es.eraseIdxIfInBounds j).toList = es.toList.eraseIdx j := by
   unfold Array.eraseIdxIfInBounds
   rw [dif_pos hjs]
   simp
  refine ⟨setBlock w b (.map (es.eraseIdxIfInBounds j) clock), ?_, ⟨_, _, heap_setBlock_same hb _, stamped_erase hs j, ?_, ?_⟩, ⟨es, clock, _, _, hb, rfl⟩⟩
  ·intro ty
   simp [Builtin.delete_, run_underlying ht, MapKept.run_getObj_map hb, K.check w _ hkey, f1, MapKept.run_setObj_map _ hb, Result.andThen, setBlock]
  ·intro x hx
   rw [hsub] at hx
   exact hk x ((List.eraseIdx_sublist _ _).subset hx)
  ·unfold ents
   rw [hsub, map_eraseIdx]
   have h1 : (ents es).Perm ((e0.key, e0.val) :: (ents es).eraseIdx j) := by
    have hget : (ents es)[j]? = some (e0.key, e0.val) := by unfold ents; rw [List.getElem?_map, f2]; rfl
    obtain ⟨hlt, hget'⟩ := List.getElem?_eq_some_iff.1 hget
    have := set_perm (ents es) j hlt (e0.key, e0.val)
    rwa [← hget', List.set_getElem_self, hget'] at this
   exact (h1.symm.trans (hL.trans hm)).cons_inv
end
theorem run_entryStore_at {t : TypeId} {w2 : World} {es : Array MapEntry} {clock j st : Nat} (hb : w2.heap[b]? = some (.map es clock)) (hidx : es.findIdx? (fun e => ((e.born : Nat) : Int) == ((st : Nat) : Int)) = some j) (val : Value) :
  (Instr.entryStore t (.map (some b)) (.int .i64 st) val).run P w2 = .ok () (setBlock w2 b (.map (es.modify j (fun e' => { e' with val := val })) clock)) := by
 simp [Instr.entryStore, MapKept.run_getObj_map hb, asInt, asIntOf, hidx, MapKept.run_setObj_map _ hb, Result.andThen, setBlock]
theorem setBlock_twice (w : World) (b : Nat) (o o' : Obj) : setBlock (setBlock w b o) b o' = setBlock w b o' := by simp [setBlock]
theorem MapL.entry_new {t e : TypeId} (K : Keyed P k) (ht : P.underlying t = some (.map k e)) {key : Value} {kl : Lit} (hkey : keyOf P k key = some kl) (h : MapL P k w b L) {z : Value} (hz : ∀ u : World, (zeroValue e).run P u = .ok z u) (hm : ∀ v, (key, v) ∉ L) :
  ∃ (st : Nat) (w2 : World), (Instr.mapEntry t (.map (some b)) key).run P w = .ok (.tuple #[z, .int .i64 st]) w2 ∧ (Instr.lookup t (.map (some b)) key false).run P w2 = .ok z w2 ∧ w.mapTurned w2 b ∧
   ∀ val, ∃ w3, (Instr.entryStore t (.map (some b)) (.int .i64 st) val).run P w2 = .ok () w3 ∧ MapL P k w3 b ((key, val) :: L) ∧ w.mapTurned w3 b := by
 obtain ⟨es, clock, hb, hs, hk, hL⟩ := h
 rcases K.find w hkey es.toList hk with ⟨f1, f2⟩ | ⟨j, e0, f1, f2, f3⟩
 ·have hb2 := heap_setBlock_same hb (Obj.map (es.push ⟨key, z, clock⟩) (clock + 1))
  have hkeys : ∀ v, ∀ x ∈ (es.push ⟨key, v, clock⟩).toList, ∃ l, keyOf P k x.key = some l := by
   intro v x hx
   simp only [Array.toList_push, List.mem_append, List.mem_singleton] at hx
   rcases hx with hx | rfl
   ·exact hk x hx
   ·exact ⟨_, hkey⟩
  have hperm : ∀ v, (ents (es.push ⟨key, v, clock⟩)).Perm ((key, v) :: L) := by
   intro v
   unfold ents
   rw [Array.toList_push, List.map_append]
   exact (List.perm_append_singleton _ _).trans (hL.cons _)
  have hpush : MapL P k (setBlock w b (.map (es.push ⟨key, z, clock⟩) (clock + 1))) b ((key, z) :: L) := ⟨_, _, hb2, stamped_push hs f2, hkeys z, hperm z⟩
  refine ⟨clock, setBlock w b (.map (es.push ⟨key, z, clock⟩) (clock + 1)), ?_, hpush.look_hit K ht hkey (List.mem_cons_self ..), ⟨es, clock, _, _, hb, rfl⟩, fun val => ⟨setBlock w b (.map (es.push ⟨key, val, clock⟩) (clock + 1)), ?_, ⟨_, _, heap_setBlock_same hb _, stamped_push hs f2, hkeys val, hperm val⟩, ⟨es, clock, _, _, hb, rfl⟩⟩⟩
  ·simp [Instr.mapEntry, run_underlying ht, MapKept.run_getObj_map hb, K.check w false hkey, f1, hz, MapKept.run_setObj_map _ hb, Result.andThen, setBlock, goInt]
  ·have hidx : (es.push ⟨key, z, clock⟩).findIdx? (fun e => ((e.born : Nat) : Int) == ((clock : Nat) : Int)) = some es.size := by
    rw [WideElems.findIdx_arr]
    exact WideElems.findIdx_born (l := (es.push ⟨key, z, clock⟩).toList) (j := es.size) (e0 := ⟨key, z, clock⟩) (stamped_push hs f2 (val := z)).2.1 (by simp)
   have hmod : (es.push ⟨key, z, clock⟩).modify es.size (fun e => { e with val := val }) = es.push ⟨key, val, clock⟩ := by
    apply Array.ext'
    rw [Array.toList_modify, Array.toList_push, Array.toList_push, ← Array.length_toList, WideElems.modify_last]
   rw [run_entryStore_at hb2 hidx, hmod, setBlock_twice]
 ·exact absurd (hL.mem_iff.1 (List.mem_map.2 ⟨e0, List.mem_of_getElem? f2, by rw [f3]⟩)) (hm e0.val)
theorem MapL.entry_old {t e : TypeId} (K : Keyed P k) (ht : P.underlying t = some (.map k e)) {key : Value} {kl : Lit} (hkey : keyOf P k key = some kl) (h : MapL P k w b L) {u : Value} {L0 : List Ent} (hm : L.Perm ((key, u) :: L0)) :
  ∃ (st : Nat) (w2 : World), (Instr.mapEntry t (.map (some b)) key).run P w = .ok (.tuple #[u, .int .i64 st]) w2 ∧ (Instr.lookup t (.map (some b)) key false).run P w2 = .ok u w2 ∧ w.mapTurned w2 b ∧
   ∀ val, ∃ w3, (Instr.entryStore t (.map (some b)) (.int .i64 st) val).run P w2 = .ok () w3 ∧ MapL P k w3 b ((key, val) :: L0) ∧ w.mapTurned w3 b := by
 have hst := fun val => h.store_old K ht hkey val hm
 obtain ⟨es, clock, hb, hs, hk, hL⟩ := h
 obtain ⟨y, hy, ey⟩ := List.mem_map.1 ((hL.trans hm).mem_iff.2 (List.mem_cons_self ..))
 cases ey
 rcases K.find w hkey es.toList hk with ⟨f1, f2⟩ | ⟨j, e0, f1, f2, f3⟩
 ·exact absurd rfl (f2 y hy)
 ·obtain rfl : e0 = y := entry_eq_of_key ((stamped_iff es clock).1 hs).2.2 (List.mem_of_getElem? f2) hy f3
  have hj : es[j]? = some e0 := by simpa using f2
  have hsame : es.modify j (fun e => { e with key := e0.key }) = es := by
   apply Array.ext'
   rw [Array.toList_modify, modify_eq_set _ _ _ _ f2]
   exact WideElems.set_self _ _ _ f2
  have hb2 := heap_setBlock_same hb (Obj.map es clock)
  have hM : MapL P k (setBlock w b (.map es clock)) b ((e0.key, e0.val) :: L0) := ⟨es, clock, hb2, hs, hk, hL.trans hm⟩
  refine ⟨e0.born, setBlock w b (.map es clock), ?_, hM.look_hit K ht hkey (List.mem_cons_self ..), ⟨es, clock, _, _, hb, rfl⟩, fun val => ⟨setBlock w b (.map (es.modify j (fun e' => { e' with val := val })) clock), ?_, ?_, ⟨es, clock, _, _, hb, rfl⟩⟩⟩
  ·simp [Instr.mapEntry, run_underlying ht, MapKept.run_getObj_map hb, K.check w false hkey, f1, hj, K.stays w hkey, hsame, MapKept.run_setObj_map _ hb, Result.andThen, setBlock, goInt]
  ·have hidx : es.findIdx? (fun e => ((e.born : Nat) : Int) == ((e0.born : Nat) : Int)) = some j := by
    rw [WideElems.findIdx_arr]
    exact WideElems.findIdx_born hs.2.1 f2
   rw [run_entryStore_at hb2 hidx, setBlock_twice]
  ·obtain ⟨w3, hrun, h3, _⟩ := hst val
   have hmod : es.modify j (fun e => { e with val := val }) = es.modify j (fun e' => { e' with key := e0.key, val := val }) := by
    apply Array.ext'
    rw [Array.toList_modify, Array.toList_modify, modify_eq_set _ _ _ _ f2, modify_eq_set _ _ _ _ f2]
   have : (Instr.mapUpdate t (.map (some b)) e0.key val).run P w = .ok () (setBlock w b (.map (es.modify j (fun e' => { e' with val := val })) clock)) := by
    rw [hmod]
    simp [Instr.mapUpdate, run_underlying ht, MapKept.run_getObj_map hb, K.check w false hkey, f1, hj, K.stays w hkey, MapKept.run_setObj_map _ hb, Result.andThen, setBlock]
   rw [hrun] at this
   cases this
   exact h3
theorem MapL.len (h : MapL P k w b L) {t e : TypeId} (ht : P.underlying t = some (.map k e)) (ty : TypeId) : (Builtin.len_ #[t] ty #[.map (some b)]).run P w = .ok (.int .i64 L.length) w := by
 have h' := h
 obtain ⟨es, clock, hb, _⟩ := h
 rw [← h'.size_eq hb]
 simp [Builtin.len_, run_underlying ht, MapKept.run_getObj_map hb, goInt, Result.andThen]
theorem MapL.range (h : MapL P k w b L) {t e : TypeId} (ht : P.underlying t = some (.map k e)) :
  ∃ w', (Instr.range t (.map (some b))).run P w = .ok (.pointer (some ⟨w.heap.size, 0, none⟩)) w' ∧ RangeL P k w' b w.heap.size L L ∧ w.grownBy w' none ∧ w'.heap.size = w.heap.size + 1 := by
 have hlt := h.lt
 obtain ⟨es, clock, hb, hs, hk, hL⟩ := h
 refine ⟨_, run_range_map w t k e b es clock ht hb, ⟨es, clock, clock, #[], clock, ((MapKept.heap_alloc w _).2 b hlt).trans hb, hs, hk, hL, Go.heap_alloc_new w _, hs.1, ?_, Nat.le_refl _, Nat.le_refl _⟩, World.grownBy_alloc w _ none, by simp⟩
 have : leftOf es #[] = es := by unfold leftOf; simp
 rw [this]; exact hL
theorem RangeL.map (h : RangeL P k w b r L T) : MapL P k w b L := by
 obtain ⟨es, clock, since, seen, c0, hb, hs, hk, hL, _⟩ := h
 exact ⟨es, clock, hb, hs, hk, hL⟩
theorem RangeL.lt (h : RangeL P k w b r L T) : r < w.heap.size := by
 obtain ⟨es, clock, since, seen, c0, hb, hs, hk, hL, hr, _⟩ := h
 exact (Array.getElem?_eq_some_iff.1 hr).1
theorem RangeL.ne (h : RangeL P k w b r L T) : r ≠ b := by
 obtain ⟨es, clock, since, seen, c0, hb, hs, hk, hL, hr, _⟩ := h
 intro e; rw [e, hb] at hr; cases hr
theorem RangeL.left_eq (h : RangeL P k w b r L T) : w.rangeLeft b r = T.length := by
 obtain ⟨es, clock, since, seen, c0, hb, hs, hk, hL, hr, _, hT, _⟩ := h
 simp only [World.rangeLeft, hb, hr]
 have := hT.length_eq
 simpa [ents] using this
theorem RangeL.kept (h : RangeL P k w b r L T) {w' : World} {row : Option Nat} (hg : w.grownBy w' row) (hb' : some b ≠ row) (hr' : some r ≠ row) : RangeL P k w' b r L T := by
 have h1 := h.map.lt
 have h2 := h.lt
 obtain ⟨es, clock, since, seen, c0, hb, hs, hk, hL, hr, rest⟩ := h
 exact ⟨es, clock, since, seen, c0, (hg.block b h1 hb').trans hb, hs, hk, hL, (hg.block r h2 hr').trans hr, rest⟩
theorem RangeL.below (h : RangeL P k w b r L T) {w' : World} {B : Nat} (hB : Below B w w') (h1 : b < B) (h2 : r < B) : RangeL P k w' b r L T := by
 obtain ⟨es, clock, since, seen, c0, hb, hs, hk, hL, hr, rest⟩ := h
 exact ⟨es, clock, since, seen, c0, (hB.block b h1).trans hb, hs, hk, hL, (hB.block r h2).trans hr, rest⟩
theorem left_out (e : MapEntry) : ∀ l : List MapEntry, (l.map (·.born)).Nodup → e ∈ l → l.Perm (e :: l.filter fun x => !(x.born == e.born))
 | x :: l, hn, he => by
  obtain ⟨h1, h2⟩ : x.born ∉ l.map (·.born) ∧ (l.map (·.born)).Nodup := List.nodup_cons.1 hn
  rcases List.mem_cons.1 he with rfl | h
  ·have : l.filter (fun x => !(x.born == e.born)) = l := List.filter_eq_self.2 (fun y hy => by
    have : y.born ≠ e.born := fun c => h1 (List.mem_map.2 ⟨y, hy, c⟩)
    simpa using this)
   simp [this]
  ·have hx : (x.born == e.born) = false := by
    cases hc : x.born == e.born with
    | false => rfl
    | true => exact absurd (List.mem_map.2 ⟨e, h, (beq_iff_eq.1 hc).symm⟩) h1
   rw [List.filter_cons_of_pos (by simp [hx])]
   exact ((left_out e l h2 h).cons x).trans (List.Perm.swap _ _ _)
theorem RangeL.next (h : RangeL P k w b r L T) (ty : TypeId) :
  (T = [] ∧ (Instr.next (.pointer (some ⟨r, 0, none⟩)) false ty).run P w = .ok (.tuple #[.bool false]) w) ∨
  ∃ x T' w', T.Perm (x :: T') ∧ (Instr.next (.pointer (some ⟨r, 0, none⟩)) false ty).run P w = .ok (.tuple #[.bool true, x.1, x.2]) w' ∧ RangeL P k w' b r L T' ∧ w.grownBy w' (some r) ∧ w'.heap.size = w.heap.size ∧ (Instr.entry (.pointer (some ⟨r, 0, none⟩))).run P w' = .ok (.tuple #[x.1, x.2]) w' := by
 have hne := h.ne
 obtain ⟨es, clock, since, seen, c0, hb, hs, hk, hL, hr, hold, hT, hsc, hsk⟩ := h
 have hst := (stamped_iff es clock).1 hs
 rcases run_next_at (P := P) w ty r b since c0 seen es clock hr hb hold hsc with ⟨h0, hrun⟩ | ⟨e, he, w1, hal, hrun⟩
 ·refine Or.inl ⟨?_, hrun⟩
  have : leftOf es seen = #[] := Array.eq_empty_of_size_eq_zero h0
  rw [this] at hT
  exact (List.nil_perm.1 hT)
 ·obtain ⟨hem, hes⟩ := mem_left he
  have hr1 : w1.heap[r]? = some (.mapIter (some b) since seen c0) := by rcases hal with rfl | rfl <;> exact hr
  have hb1 : w1.heap[b]? = some (.map es clock) := by rcases hal with rfl | rfl <;> exact hb
  have hset := heap_set (o' := .mapIter (some b) since (seen.push e.born) clock) hr1
  have hb' : (setBlock w1 r (.mapIter (some b) since (seen.push e.born) clock)).heap[b]? = some (.map es clock) := (hset.2 b (fun e1 => hne e1.symm)).trans hb1
  have hleft : (leftOf es (seen.push e.born)).toList = (leftOf es seen).toList.filter (fun x => !(x.born == e.born)) := by
   unfold leftOf
   rw [Array.toList_filter, Array.toList_filter, List.filter_filter]
   refine List.filter_congr fun x hx => ?_
   rw [contains_push]
   cases seen.contains x.born <;> cases (x.born == e.born) <;> rfl
  have hnd : ((leftOf es seen).toList.map (·.born)).Nodup := by
   unfold leftOf
   rw [Array.toList_filter]
   exact (List.filter_sublist.map _).nodup hst.2.1
  refine Or.inr ⟨(e.key, e.val), ents (leftOf es (seen.push e.born)), _, ?_, hrun, ⟨es, clock, since, seen.push e.born, clock, hb', hs, hk, hL, hset.1, hold, List.Perm.refl _, hsk, hsk⟩, ?_, ?_, run_entry_at _ r b since seen es clock e hset.1 hb' hem hst.2.1⟩
  ·refine hT.symm.trans ?_
   unfold ents
   rw [hleft]
   exact (left_out e _ hnd he).map (fun x : MapEntry => (x.key, x.val))
  ·rcases hal with rfl | rfl <;> exact ⟨rfl, rfl, rfl, by simp [setBlock], fun i _ hi => hset.2 i (fun e1 => hi (by rw [e1]))⟩
  ·rcases hal with rfl | rfl <;> simp [setBlock]
section
variable {w : World} {ops : Array Oper} {rest : List Oper} {o : Oper} {a : Act} {Q : Exit → Act → World → Prop}
theorem wpL_range (hg : o.guard = none) (m : Operand) (t : TypeId) (hop : o.op = Op.range t m) (k e : TypeId) (ht : P.underlying t = some (.map k e)) (b : Nat) (L : List Ent) (hm : a.eval m = .map (some b)) (h : MapL P k w b L)
  (hK : ∀ w', RangeL P k w' b w.heap.size L L → w.grownBy w' none → w'.heap.size = w.heap.size + 1 → wpList P ops Q rest (a.put o.dst (.pointer (some ⟨w.heap.size, 0, none⟩))) w') : wpList P ops Q (o :: rest) a w := by
 refine wpList_plain hg fun K' hK' => ?_
 obtain ⟨w', hrun, r1, r2, r3⟩ := h.range ht
 unfold Oper.wp
 simp [execOp, hop, hm, hrun, Result.andThen]
 exact hK' _ _ (hK w' r1 r2 r3)
theorem wpL_next (hg : o.guard = none) (it : Operand) (hop : o.op = Op.next it false) (k : TypeId) (b r : Nat) (L T : List Ent) (hit : a.eval it = .pointer (some ⟨r, 0, none⟩)) (h : RangeL P k w b r L T)
  (hDone : T = [] → wpList P ops Q rest (a.put o.dst (.tuple #[.bool false])) w)
  (hMore : ∀ x T' w', T.Perm (x :: T') → RangeL P k w' b r L T' → w.grownBy w' (some r) → w'.heap.size = w.heap.size → (Instr.entry (.pointer (some ⟨r, 0, none⟩))).run P w' = .ok (.tuple #[x.1, x.2]) w' → wpList P ops Q rest (a.put o.dst (.tuple #[.bool true, x.1, x.2])) w') : wpList P ops Q (o :: rest) a w := by
 refine wpList_plain hg fun K' hK' => ?_
 unfold Oper.wp
 rcases h.next o.type with ⟨h0, hrun⟩ | ⟨x, T', w', hp, hrun, hrg, hgr, hsz, hen⟩
 ·simp [execOp, hop, hit, hrun, Result.andThen]
  exact hK' _ _ (hDone h0)
 ·simp [execOp, hop, hit, hrun, Result.andThen]
  exact hK' _ _ (hMore x T' w' hp hrg hgr hsz hen)
theorem stepL_delete {K : Act → World → Prop} {Q' : Exit → Act → World → Prop} {E : Prop} (hg : o.guard = none) (m x : Operand) (t k : TypeId) (hop : o.op = Op.call { callee := Callee.builtin Builtin.delete, args := #[m, x], argTypes := #[t, k] }) (b : Nat) (key : Value) (hm : a.eval m = .map (some b)) (hx : a.eval x = key) (w' : World)
  (hr : ∀ ty, (Builtin.delete_ #[t, k] ty #[.map (some b), key]).run P w = .ok (.tuple #[]) w') (hK : K (a.put o.dst (.tuple #[])) w') : if Region.wanted o (yielded ops a.tmps) = true then Oper.wp P o a w K Q' else E := by
 have hw : Region.wanted o (yielded ops a.tmps) = true := by simp [Region.wanted, hg]
 rw [if_pos hw]
 unfold Oper.wp
 simp [execOp, hop, resolve, invoke, builtin, hm, hx, hr o.type, Result.andThen]
 exact hK
theorem wpL_len (hg : o.guard = none) (m : Operand) (t : TypeId) (hop : o.op = Op.call { callee := Callee.builtin Builtin.len, args := #[m], argTypes := #[t] }) (k e : TypeId) (ht : P.underlying t = some (.map k e)) (b : Nat) (L : List Ent) (N : Nat) (hN : L.length = N) (hm : a.eval m = .map (some b)) (h : MapL P k w b L)
  (hK : wpList P ops Q rest (a.put o.dst (.int .i64 N)) w) : wpList P ops Q (o :: rest) a w := by
 subst hN
 refine wpList_plain hg fun K' hK' => ?_
 unfold Oper.wp
 simp [execOp, hop, resolve, invoke, builtin, hm, h.len ht o.type, Result.andThen]
 exact hK' _ _ hK
end
end Go.Proofs.YtppodkkefegbkaaGreatDoor
namespace Go.Proofs.YtppodkkefegbkaaGreatDoor
open Go.RowKit Go.Lib
structure Off (x : List Nat) (w w' : World) : Prop where
 os : w'.os = w.os
 tape : w'.tape = w.tape
 output : w'.output = w.output
 size : w.heap.size ≤ w'.heap.size
 block : ∀ k, k < w.heap.size → k ∉ x → w'.heap[k]? = w.heap[k]?
theorem Off.refl (x : List Nat) (w : World) : Off x w w := ⟨rfl, rfl, rfl, Nat.le_refl _, fun _ _ _ => rfl⟩
theorem Off.of_below {x : List Nat} {w w' : World} (h : Below w.heap.size w w') : Off x w w' := ⟨h.os, h.tape, h.output, h.size, fun k hk _ => h.block k hk⟩
theorem Off.trans {x : List Nat} {w w' w'' : World} (h : Off x w w') (h' : Off x w' w'') : Off x w w'' :=
 ⟨h'.os.trans h.os, h'.tape.trans h.tape, h'.output.trans h.output, Nat.le_trans h.size h'.size, fun k hk hx => (h'.block k (Nat.lt_of_lt_of_le hk h.size) hx).trans (h.block k hk hx)⟩
theorem Off.mono {x y : List Nat} {w w' : World} (h : Off x w w') (hxy : ∀ k ∈ x, k ∈ y) : Off y w w' := ⟨h.os, h.tape, h.output, h.size, fun k hk hy => h.block k hk fun e => hy (hxy k e)⟩
theorem Off.below {x : List Nat} {w w' : World} {B : Nat} (h : Off x w w') (hB : B ≤ w.heap.size) (hx : ∀ k ∈ x, B ≤ k) : Below B w w' := ⟨h.os, h.tape, h.output, h.size, fun k hk => h.block k (Nat.lt_of_lt_of_le hk hB) fun e => by have := hx k e; omega⟩
theorem Off.set {x : List Nat} {w w' : World} (h : Off x w w') {p o : Nat} (hp : p ∈ x) (v : Value) : Off x w (w'.setCell ⟨p, o, none⟩ v) := by
 refine h.trans ⟨rfl, rfl, rfl, by rw [World.size_setCell]; exact Nat.le_refl _, fun k hk hx => Below.heap_setCell w' ⟨p, o, none⟩ v k (fun e => hx (e ▸ hp))⟩
end Go.Proofs.YtppodkkefegbkaaGreatDoor
