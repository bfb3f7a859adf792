/-
 A map's block: what a look-up that asks whether a thing is there finds; worlds in which but some blocks are turned; names as keys.
-/
import Derived.Test.YtppodkkefegbkaaGreatDoorJz2
import Derived.Test.YtppodkkefegbkaaGreatDoorJz6
import Derived.StringKeys
set_option maxRecDepth 100000
set_option maxHeartbeats 16000000
namespace Go.Proofs.YtppodkkefegbkaaGreatDoor
open Go.RowKit Go.Lib
open Go.MapKept Go.ChangeMaps
open Go.Maps (Keyed)
section
variable {P : Program} {k : TypeId} {w : World} {b : Nat} {L : List Ent} {t e : TypeId} (K : Keyed P k) (ht : P.underlying t = some (.map k e)) {key : Value} {kl : Lit} (hkey : keyOf P k key = some kl)
include K ht hkey
theorem MapL.ask_hit (h : MapL P k w b L) {v : Value} (hm : (key, v) ∈ L) : (Instr.lookup t (.map (some b)) key true).run P w = .ok (.tuple #[v, .bool true]) w := by
 obtain ⟨es, clock, hb, hs, hk, hL⟩ := h
 obtain ⟨y, hy, ey⟩ := List.mem_map.1 (hL.mem_iff.2 hm)
 cases ey
 rcases K.find w hkey es.toList hk with ⟨f1, f2⟩ | ⟨j, e0, f1, f2, f3⟩
 ·exact absurd rfl (f2 y hy)
 ·have : e0 = y := entry_eq_of_key ((stamped_iff es clock).1 hs).2.2 (List.mem_of_getElem? f2) hy f3
  subst this
  simp [Instr.lookup, run_underlying ht, MapKept.run_getObj_map hb, K.check w _ hkey, f1, Result.andThen]
theorem MapL.ask_miss (h : MapL P k w b L) {z : Value} (hz : (zeroValue e).run P w = .ok z w) (hm : ∀ v, (key, v) ∉ L) : (Instr.lookup t (.map (some b)) key true).run P w = .ok (.tuple #[z, .bool false]) w := by
 obtain ⟨es, clock, hb, hs, hk, hL⟩ := h
 rcases K.find w hkey es.toList hk with ⟨f1, f2⟩ | ⟨j, e0, f1, f2, f3⟩
 ·simp [Instr.lookup, run_underlying ht, MapKept.run_getObj_map hb, K.check w _ hkey, f1, hz, Result.andThen]
 ·exact absurd (hL.mem_iff.1 (List.mem_map.2 ⟨e0, List.mem_of_getElem? f2, by rw [f3]⟩)) (hm e0.val)
end
section
variable {P : Program} {w : World} {ops : Array Oper} {rest : List Oper} {o : Oper} {a : Act} {Q : Exit → Act → World → Prop}
theorem wpL_ask (hg : o.guard = none) (m x : Operand) (t : TypeId) (hop : o.op = Op.lookup t m x true) (b : Nat) (key v : Value) (hm : a.eval m = .map (some b)) (hx : a.eval x = key) (hr : (Instr.lookup t (.map (some b)) key true).run P w = .ok v w)
  (hK : wpList P ops Q rest (a.put o.dst v) w) : wpList P ops Q (o :: rest) a w := by
 refine wpList_plain hg fun K' hK' => ?_
 unfold Oper.wp
 simp [execOp, hop, hm, hx, hr, Result.andThen]
 exact hK' _ _ hK
end
theorem Off.of_turned {x : List Nat} {w w' : World} {b : Nat} (h : w.mapTurned w' b) (hb : b ∈ x) : Off x w w' := by
 refine ⟨?_, ?_, ?_, Nat.le_of_eq (turned_size h).symm, fun k hk hx => turned_block h (fun e => hx (e ▸ hb))⟩ <;> (obtain ⟨es, clock, es', clock', hb', rfl⟩ := h; rfl)
theorem Tryz.keyedS : Keyed Tryz.prog 9 := Maps.string_keyed Tryz.underlying9
theorem keyS {c : ByteArray} (h : c.size ≤ maxLen) : keyOf Tryz.prog 9 (.string c) = some (.string c.data.toList) := WideMaps.keyOf_string_mk Tryz.underlying9 h
end Go.Proofs.YtppodkkefegbkaaGreatDoor
