/-
 What slices.symMergeCmpFunc does to a row of elements of k cells: it merges two parts that are sorted into one, and leaves what is sorted; over any program that holds its bodies, for a comparison that is a strict weak order.
-/
import Derived.Test.YteomomeigbfeoaaGreatDoorStMidB
import Derived.Deep.RegionWith
set_option maxRecDepth 100000
set_option maxHeartbeats 16000000
namespace Go.Proofs.YteomomeigbfeoaaGreatDoor
open Go.Shelf Go.RowKit Go.Lib Go.Sort
variable {P : Program} {k : Nat} {α : Type} [Inhabited α]
theorem sym_any (X : St P k) (enc : α → List Value) (cf : α → α → Int) (g : Nat) (cb : Array Value) (hO : SWO (ltOf cf)) (blk off cap : Nat) (d0 : Array α) (w0 : World)
  (eg : ∀ args w, (callFunc g args).run P w = .ok (.enter g args) w) (hC : CmpLays P g cb enc k cf blk off d0.size w0) (R : RowK enc k w0 blk off d0) (hsz : d0.size < 2305843009213693952) :
  ∀ (N a m b : Nat) (d : Array α) (w : World), b - a < N → a < m → m < b → b ≤ d0.size → SZ enc k w0 blk off d0.size d w → Calls P 183 #[.slice (some ⟨blk, off, none⟩) d0.size cap, .int .i64 a, .int .i64 m, .int .i64 b, .func (.func g) #[] cb] w fun e w' => e = .returned (.tuple #[]) ∧ ∃ d', Merged (ltOf cf) a m b d d' ∧ SZ enc k w0 blk off d0.size d' w' := by
 intro N
 induction N with
 | zero => intro a m b d w h; exact absurd h (Nat.not_lt_zero _)
 | succ N ih =>
  intro a m b d w hN ham hmb hb hZ
  have hs : d0.size = d.size := hZ.1.symm
  by_cases h1 : m ≤ a + 1
  ·have h := sym_left X enc cf g cb hO blk off cap d0 w0 eg hC R a m b d w hs hZ.2 ham h1 hmb (by omega) (by omega)
   rw [← hs] at h
   exact h.mono fun e w' ⟨he, d', hm, hS⟩ => ⟨he, d', hm, by rw [hs]; exact hm.1.1, hS⟩
  ·by_cases h2 : b ≤ m + 1
   ·have h := sym_right X enc cf g cb hO blk off cap d0 w0 eg hC R a m b d w hs hZ.2 (by omega) hmb h2 (by omega) (by omega)
    rw [← hs] at h
    exact h.mono fun e w' ⟨he, d', hm, hS⟩ => ⟨he, d', hm, by rw [hs]; exact hm.1.1, hS⟩
   ·have h : Calls P 183 #[.slice (some ⟨blk, off, none⟩) d.size cap, .int .i64 a, .int .i64 m, .int .i64 b, .func (.func g) #[] cb] w fun e w' => e = .returned (.tuple #[]) ∧ ∃ d', Merged (ltOf cf) a m b d d' ∧ SZ enc k w0 blk off d0.size d' w' := by
     by_cases h3 : (a + b) / 2 < m
     ·exact sym_midA X enc cf g cb hO blk off cap d0 w0 eg hC R N ih a m b d w hN hs hZ.2 (by omega) (by omega) (by omega) (by omega) ((a + b) / 2) ((a + b) / 2 + m - b) ((a + b) / 2) rfl (Or.inl ⟨h3, rfl, rfl⟩) (by omega)
     ·exact sym_midB X enc cf g cb hO blk off cap d0 w0 eg hC R N ih a m b d w hN hs hZ.2 (by omega) (by omega) (by omega) (by omega) ((a + b) / 2) a m rfl (Or.inr ⟨by omega, rfl, rfl⟩) (by omega)
    rw [← hs] at h
    exact h
end Go.Proofs.YteomomeigbfeoaaGreatDoor
