/-
 What slices.symMergeCmpFunc does to a row of elements of k cells: it merges two parts that are sorted into one, and leaves what is sorted; over any program that
-/
import Derived.Test.YtefkchmahcjleaaGreatDoorJz9
import Derived.Deep.RegionWith
set_option maxRecDepth 100000
set_option maxHeartbeats 16000000
namespace Go.Proofs.YtefkchmahcjleaaGreatDoor
open Go.Shelf Go.RowKit Go.Lib Go.Sort
variable {P : Program} {k : Nat} {α : Type} [Inhabited α]
def SZ (enc : α → List Value) (k : Nat) (w0 : World) (blk off n : Nat) (d : Array α) (w : World) : Prop := d.size = n ∧ SWK enc k w0 blk off d w
theorem sym_midA (X : St P k) (enc : α → List Value) (cf : α → α → Int) (g : Nat) (cb : Array Value) (hO : SWO (ltOf cf)) (blk off cap : Nat) (d0 : Array α) (w0 : World)
  (eg : ∀ args w, (callFunc g args).run P w = .ok (.enter g args) w) (hC : CmpLays P g cb enc k cf blk off d0.size w0) (R : RowK enc k w0 blk off d0) (N : Nat)
  (ih : ∀ (a m b : Nat) (d : Array α) (w : World), b - a < N → a < m → m < b → b ≤ d0.size → SZ enc k w0 blk off d0.size d w → Calls P 173 #[.slice (some ⟨blk, off, none⟩) d0.size cap, .int .i64 a, .int .i64 m, .int .i64 b, .func (.func g) #[] cb] w fun e w' => e = .returned (.tuple #[]) ∧ ∃ d', Merged (ltOf cf) a m b d d' ∧ SZ enc k w0 blk off d0.size d' w')
  (a m b : Nat) (d : Array α) (w : World) (hN : b - a < N + 1) (hs : d0.size = d.size) (S : SWK enc k w0 blk off d w) (ham : a + 1 < m) (hmb : m + 1 < b) (hb : b ≤ d.size) (hsz : d.size < 2305843009213693952) (mid lo hi : Nat) (hmid : mid = (a + b) / 2) (hc : (mid < m ∧ lo = mid + m - b ∧ hi = mid) ∨ (m ≤ mid ∧ lo = a ∧ hi = m)) (hcase : mid < m ∧ (mid : Int) < (m : Int) ∧ (mid : Int) + (m : Int) - (b : Int) = (lo : Int) ∧ hi ≤ mid ∧ mid ≤ hi) :
  Calls P 173 #[.slice (some ⟨blk, off, none⟩) d.size cap, .int .i64 a, .int .i64 m, .int .i64 b, .func (.func g) #[] cb] w fun e w' => e = .returned (.tuple #[]) ∧ ∃ d', Merged (ltOf cf) a m b d d' ∧ SZ enc k w0 blk off d0.size d' w' := by
 have mixed := X.mixed; have t0 := X.t0; have a0 := X.a0; have z0 := X.z0; have v0 := X.v0; have t3 := X.t3; have a3 := X.a3; have z3 := X.z3; have v3 := X.v3; have t4 := X.t4; have a4 := X.a4; have z4 := X.z4; have v4 := X.v4; have tU := X.tU; have aU := X.aU; have zU := X.zU; have vU := X.vU; have tL := X.tL; have aL := X.aL; have zL := X.zL; have vL := X.vL; have tF := X.tF; have aF := X.aF; have zF := X.zF; have vF := X.vF; have aE := X.aE; have zE := X.zE
 have HC : Aside (CmpLays P g cb enc k cf blk off d0.size w0) := hC
 clear hC
 have eR : ∀ args w, (callFunc 177 args).run P w = .ok (.enter 177 args) w := enters_of X.fR (by kernel_rfl) rfl
 have eM : ∀ args w, (callFunc 173 args).run P w = .ok (.enter 173 args) w := enters_of X.fM (by kernel_rfl) rfl
 rw [hs] at ih
 have HI : Aside (∀ (a m b : Nat) (d' : Array α) (w : World), b - a < N → a < m → m < b → b ≤ d.size → SZ enc k w0 blk off d.size d' w → Calls P 173 #[.slice (some ⟨blk, off, none⟩) d.size cap, .int .i64 a, .int .i64 m, .int .i64 b, .func (.func g) #[] cb] w fun e w' => e = .returned (.tuple #[]) ∧ ∃ d'', Merged (ltOf cf) a m b d' d'' ∧ SZ enc k w0 blk off d.size d'' w') := ih
 clear ih
 rw [hs]
 have S0 : Aside (SWK enc k w0 blk off d w) := S
 clear S
 have hma : (((m : Int) - (a : Int)) == 1) = false := by simp; omega
 have hbz : (((b : Int) - (m : Int)) == 1) = false := by simp; omega
 have hmidz : ((a : Int) + (b : Int)) / 2 = (mid : Int) := by omega
 have HMID : Hid (mid = (a + b) / 2) := hmid
 have g1 : 2 * mid ≤ a + b := by omega
 have g2 : a + b ≤ 2 * mid + 1 := by omega
 clear hmid
 have HCC : Hid ((mid < m ∧ lo = mid + m - b ∧ hi = mid) ∨ (m ≤ mid ∧ lo = a ∧ hi = m)) := hc
 have b1 : a ≤ lo := by omega
 have b2 : lo ≤ hi := by omega
 have b3 : hi ≤ m := by omega
 have b4 : hi ≤ mid := by omega
 have b5 : mid + m ≤ b + lo := by omega
 have FIN : Hid (∀ start, lo ≤ start → start ≤ hi → (lo < start → ltOf cf d[mid + m - start]! d[start - 1]! = false) → (start < hi → ltOf cf d[mid + m - 1 - start]! d[start]! = true) → ∀ d1 d2 d3, PermIn start (mid + m - start) d d1 → Rot d d1 start m (mid + m - start) → Merged (ltOf cf) a start mid d1 d2 → Merged (ltOf cf) mid (mid + m - start) b d2 d3 → Merged (ltOf cf) a m b d d3) := fun start h1 h2 h3 h4 d1 d2 d3 p r m1 m2 => merged_mid hO hb (by omega) (by omega) HMID.out HCC.out h1 h2 h3 h4 p r m1 m2
 clear HCC hc HMID
 obtain ⟨q1, q2, q3, q4, q5⟩ := hcase
 all_goals
  go_enter X.fM, Tryz.ntmps173
  go_wp2
  go_loopg [20, 21] (b - a) (fun kx s20 s21 wr => ∃ (i j : Nat), s20 = .int .i64 i ∧ s21 = .int .i64 j ∧ lo ≤ i ∧ i ≤ j ∧ j ≤ hi ∧ j - i ≤ kx ∧ Hid (lo < i → ltOf cf d[mid + m - i]! d[i - 1]! = false) ∧ Hid (j < hi → ltOf cf d[mid + m - 1 - j]! d[j]! = true) ∧ Aside (SWK enc k w0 blk off d wr))
  case atStart => first | exact ⟨lo, mid, rfl, rfl, Nat.le_refl _, by omega, by omega, by omega, (fun h => absurd h (by omega) : lo < lo → _), (fun h => absurd h (by omega) : mid < hi → _), S0⟩ | exact ⟨a, m, rfl, rfl, by omega, by omega, by omega, by omega, (fun h => absurd h (by omega) : lo < a → _), (fun h => absurd h (by omega) : m < hi → _), S0⟩
  case round =>
   clear S0
   obtain ⟨i, j, rfl, rfl, hai, hij, hjb, hkx, H1, H2, S1⟩ := hrel
   by_cases hlt : i < j
   ·have hltz : (i : Int) < (j : Int) := by omega
    obtain ⟨h, hh⟩ : ∃ h, h = (i + j) / 2 := ⟨_, rfl⟩
    have hhz : ((i : Int) + (j : Int)) / 2 = (h : Int) := by omega
    have hh1 : i ≤ h := by omega
    have hh2 : h < j := by omega
    clear hh
    obtain ⟨q, hq⟩ : ∃ q, q = mid + m - 1 - h := ⟨_, rfl⟩
    have hqz : (mid : Int) + (m : Int) - 1 - (h : Int) = (q : Int) := by omega
    have hqd : (q : Int) < (d.size : Int) := by omega
    have hqw : IntKind.i64.wrap (q : Int) = (q : Int) := by rw [IntKind.wrap_i64]; omega
    have HQ : Hid (q = mid + m - 1 - h) := hq
    clear hq
    have lx := fun n os => S1.out.ld R (by omega) P (q) (by omega) n os
    have ly := fun n os => S1.out.ld R (by omega) P (h) (by omega) n os
    have hcg := fun n os => S1.out.cmp HC.out (by omega) d[q]! d[h]! n os
    have CLS : Hid (∀ n os, SWK enc k w0 blk off d (grow (wr.drewN n) os)) := fun n os => S1.out.grown n os
    generalize hxe : d[q]! = x at lx hcg
    generalize hye : d[h]! = y at ly hcg
    have HXE : Hid (d[q]! = x) := hxe
    have HYE : Hid (d[h]! = y) := hye
    clear hxe hye S1
    have hhd : (h : Int) < (d.size : Int) := by omega
    by_cases hlv : cf x y < 0
    ·have N2 : Hid (h < hi → ltOf cf d[mid + m - 1 - h]! d[h]! = true) := fun _ => by rw [← HQ.out, HXE.out, HYE.out]; exact lt_yes hlv
     have hdv : decide (cf x y < 0) = true := decide_eq_true hlv
     go_wp2_with fail
     go_quiet_grown (first | (go_at_fn g; refine Calls.grown_of (hcg _ _)))
     have S2 : Aside (SWK enc k w0 blk off d (grow (wr.drewN nq) osq)) := CLS.out nq osq
     clear CLS lx ly hcg
     generalize grow (wr.drewN nq) osq = w2 at S2 ⊢
     go_wp2
     go_roundg (h - i)
     case measure => omega
     case rel => exact ⟨i, h, rfl, rfl, hai, hh1, by omega, Nat.le_refl _, H1, N2, S2⟩
    ·have N1 : Hid (lo < h + 1 → ltOf cf d[mid + m - (h + 1)]! d[h + 1 - 1]! = false) := fun _ => by
      have e : mid + m - (h + 1) = mid + m - 1 - h := by omega
      rw [e, Nat.add_sub_cancel, ← HQ.out, HXE.out, HYE.out]; exact lt_no hlv
     have hdv : decide (cf x y < 0) = false := decide_eq_false hlv
     go_wp2_with fail
     go_quiet_grown (first | (go_at_fn g; refine Calls.grown_of (hcg _ _)))
     have S2 : Aside (SWK enc k w0 blk off d (grow (wr.drewN nq) osq)) := CLS.out nq osq
     clear CLS lx ly hcg
     generalize grow (wr.drewN nq) osq = w2 at S2 ⊢
     go_wp2
     go_roundg (j - (h + 1))
     case measure => omega
     case rel => exact ⟨h + 1, j, by go_num, rfl, by omega, by omega, hjb, Nat.le_refl _, N1, H2, S2⟩
   ·have hji : j = i := by omega
    subst hji
    have hnot : ¬ (j : Int) < (j : Int) := by omega
    have FIN' := FIN.out j hai hjb H1.out H2.out
    obtain ⟨en, hen⟩ : ∃ en, en = mid + m - j := ⟨_, rfl⟩
    have hez : (mid : Int) + (m : Int) - (j : Int) = (en : Int) := by omega
    rw [← hen] at FIN'
    have e1 : en + j ≤ mid + m := by omega
    have e2 : mid + m ≤ en + j := by omega
    have FIN : Hid (∀ d1 d2 d3, PermIn j en d d1 → Rot d d1 j m en → Merged (ltOf cf) a j mid d1 d2 → Merged (ltOf cf) mid en b d2 d3 → Merged (ltOf cf) a m b d d3) := FIN'
    clear hen FIN' H1 H2 hij
    have Z0 : Aside (SZ enc k w0 blk off d.size d wr) := ⟨rfl, S1.out⟩
    have R1 : Hid (¬ (j < m ∧ m < en) → Rot d d j m en ∧ PermIn j en d d) := fun h => by
     refine ⟨?_, permIn_refl d j en⟩
     by_cases h' : j < m
     ·obtain rfl : en = m := by omega
      exact Rot.refl_right d j en
     ·obtain rfl : j = m := by omega
      exact Rot.refl_left d j en
    have R2 : Hid (∀ d' : Array α, ¬ (a < j ∧ j < mid) → Merged (ltOf cf) a j mid d' d') := fun d' h => Merged.none _ d' (by omega) (by omega) (by omega)
    have R3 : Hid (∀ d' : Array α, ¬ (mid < en ∧ en < b) → Merged (ltOf cf) mid en b d' d') := fun d' h => Merged.none _ d' (by omega) (by omega) (by omega)
    have hRot : Aside (j < m → m < en → Calls P 177 #[.slice (some ⟨blk, off, none⟩) d.size cap, .int .i64 j, .int .i64 m, .int .i64 en, .func (.func g) #[] cb] wr fun e w' => e = .returned (.tuple #[]) ∧ ∃ d1, Rot d d1 j m en ∧ PermIn j en d d1 ∧ SZ enc k w0 blk off d.size d1 w') := fun h1 h2 => (rotate_any X enc (.func (.func g) #[] cb) blk off cap j m en d0 d w0 wr R hs S1.out h1 h2 (by omega) (by omega)).mono fun e w' ⟨he, d1, hr, hp, S⟩ => ⟨he, d1, hr, hp, hp.1, S⟩
    have hM1 : Aside (a < j → j < mid → ∀ d1 w1, SZ enc k w0 blk off d.size d1 w1 → Calls P 173 #[.slice (some ⟨blk, off, none⟩) d.size cap, .int .i64 a, .int .i64 j, .int .i64 mid, .func (.func g) #[] cb] w1 fun e w' => e = .returned (.tuple #[]) ∧ ∃ d', Merged (ltOf cf) a j mid d1 d' ∧ SZ enc k w0 blk off d.size d' w') := fun h1 h2 d1 w1 z => HI.out a j mid d1 w1 (by omega) h1 h2 (by omega) z
    have hM2 : Aside (mid < en → en < b → ∀ d1 w1, SZ enc k w0 blk off d.size d1 w1 → Calls P 173 #[.slice (some ⟨blk, off, none⟩) d.size cap, .int .i64 mid, .int .i64 en, .int .i64 b, .func (.func g) #[] cb] w1 fun e w' => e = .returned (.tuple #[]) ∧ ∃ d', Merged (ltOf cf) mid en b d1 d' ∧ SZ enc k w0 blk off d.size d' w') := fun h1 h2 d1 w1 z => HI.out mid en b d1 w1 (by omega) h1 h2 (by omega) z
    clear HI S1
    have A1 : ((j : Int) < (m : Int) ∧ j < m) ∨ (¬ (j : Int) < (m : Int) ∧ ¬ j < m) := by omega
    have A2 : ((m : Int) < (en : Int) ∧ (j : Int) < (mid : Int) ∧ m < en ∧ j < mid) ∨ (¬ (m : Int) < (en : Int) ∧ ¬ (j : Int) < (mid : Int) ∧ ¬ m < en ∧ ¬ j < mid) := by omega
    have A3 : ((a : Int) < (j : Int) ∧ a < j) ∨ (¬ (a : Int) < (j : Int) ∧ ¬ a < j) := by omega
    have A4 : ((en : Int) < (b : Int) ∧ en < b) ∨ (¬ (en : Int) < (b : Int) ∧ ¬ en < b) := by omega
    have A5 : ((mid : Int) < (en : Int) ∧ mid < en) ∨ (¬ (mid : Int) < (en : Int) ∧ ¬ mid < en) := by omega
    rcases A1 with ⟨c1, k1⟩ | ⟨c1, k1⟩ <;> rcases A2 with ⟨c2, c2', k2, k2'⟩ | ⟨c2, c2', k2, k2'⟩ <;> rcases A3 with ⟨c3, k3⟩ | ⟨c3, k3⟩ <;> rcases A4 with ⟨c4, k4⟩ | ⟨c4, k4⟩ <;> rcases A5 with ⟨c5, k5⟩ | ⟨c5, k5⟩ <;> first | (exfalso; omega) | skip
    all_goals
     go_wp2_with (first
      | (go_at_fn 177; refine (hRot.out k1 k2).mono ?_; rintro e w1 ⟨rfl, d1, hr1, hp1, Z1⟩; clear hRot)
      | (go_at_call_of 173 (Value.int .i64 (a : Int)); (first | refine (hM1.out k3 k2' _ _ Z1).mono ?_ | refine (hM1.out k3 k2' _ _ Z0.out).mono ?_); rintro e w2 ⟨rfl, d2, hm1, Z2⟩; clear hM1)
      | (go_at_call_of 173 (Value.int .i64 (b : Int)); (first | refine (hM2.out k5 k4 _ _ Z2).mono ?_ | refine (hM2.out k5 k4 _ _ Z1).mono ?_ | refine (hM2.out k5 k4 _ _ Z0.out).mono ?_); rintro e w3 ⟨rfl, d3, hm2, Z3⟩; clear hM2))
     go_end0
     first | (exact ⟨rfl, d3, FIN.out d1 d2 d3 hp1 hr1 hm1 hm2, Z3⟩) | (exact ⟨rfl, d2, FIN.out d1 d2 d2 hp1 hr1 hm1 (R3.out d2 (by omega)), Z2⟩) | (exact ⟨rfl, d3, FIN.out d1 d1 d3 hp1 hr1 (R2.out d1 (by omega)) hm2, Z3⟩) | (exact ⟨rfl, d1, FIN.out d1 d1 d1 hp1 hr1 (R2.out d1 (by omega)) (R3.out d1 (by omega)), Z1⟩) | (exact ⟨rfl, d3, FIN.out d d2 d3 (R1.out (by omega)).2 (R1.out (by omega)).1 hm1 hm2, Z3⟩) | (exact ⟨rfl, d2, FIN.out d d2 d2 (R1.out (by omega)).2 (R1.out (by omega)).1 hm1 (R3.out d2 (by omega)), Z2⟩) | (exact ⟨rfl, d3, FIN.out d d d3 (R1.out (by omega)).2 (R1.out (by omega)).1 (R2.out d (by omega)) hm2, Z3⟩) | (exact ⟨rfl, d, FIN.out d d d (R1.out (by omega)).2 (R1.out (by omega)).1 (R2.out d (by omega)) (R3.out d (by omega)), Z0.out⟩)
end Go.Proofs.YtefkchmahcjleaaGreatDoor
namespace Go.Proofs.YtefkchmahcjleaaGreatDoor
open Go.Shelf Go.RowKit Go.Lib Go.Sort
variable {P : Program} {k : Nat} {α : Type} [Inhabited α]
theorem sym_midB (X : St P k) (enc : α → List Value) (cf : α → α → Int) (g : Nat) (cb : Array Value) (hO : SWO (ltOf cf)) (blk off cap : Nat) (d0 : Array α) (w0 : World)
  (eg : ∀ args w, (callFunc g args).run P w = .ok (.enter g args) w) (hC : CmpLays P g cb enc k cf blk off d0.size w0) (R : RowK enc k w0 blk off d0) (N : Nat)
  (ih : ∀ (a m b : Nat) (d : Array α) (w : World), b - a < N → a < m → m < b → b ≤ d0.size → SZ enc k w0 blk off d0.size d w → Calls P 173 #[.slice (some ⟨blk, off, none⟩) d0.size cap, .int .i64 a, .int .i64 m, .int .i64 b, .func (.func g) #[] cb] w fun e w' => e = .returned (.tuple #[]) ∧ ∃ d', Merged (ltOf cf) a m b d d' ∧ SZ enc k w0 blk off d0.size d' w')
  (a m b : Nat) (d : Array α) (w : World) (hN : b - a < N + 1) (hs : d0.size = d.size) (S : SWK enc k w0 blk off d w) (ham : a + 1 < m) (hmb : m + 1 < b) (hb : b ≤ d.size) (hsz : d.size < 2305843009213693952) (mid lo hi : Nat) (hmid : mid = (a + b) / 2) (hc : (mid < m ∧ lo = mid + m - b ∧ hi = mid) ∨ (m ≤ mid ∧ lo = a ∧ hi = m)) (hcase : m ≤ mid ∧ ¬ (mid : Int) < (m : Int) ∧ lo ≤ a ∧ hi ≤ m ∧ m ≤ hi) :
  Calls P 173 #[.slice (some ⟨blk, off, none⟩) d.size cap, .int .i64 a, .int .i64 m, .int .i64 b, .func (.func g) #[] cb] w fun e w' => e = .returned (.tuple #[]) ∧ ∃ d', Merged (ltOf cf) a m b d d' ∧ SZ enc k w0 blk off d0.size d' w' := by
 have mixed := X.mixed; have t0 := X.t0; have a0 := X.a0; have z0 := X.z0; have v0 := X.v0; have t3 := X.t3; have a3 := X.a3; have z3 := X.z3; have v3 := X.v3; have t4 := X.t4; have a4 := X.a4; have z4 := X.z4; have v4 := X.v4; have tU := X.tU; have aU := X.aU; have zU := X.zU; have vU := X.vU; have tL := X.tL; have aL := X.aL; have zL := X.zL; have vL := X.vL; have tF := X.tF; have aF := X.aF; have zF := X.zF; have vF := X.vF; have aE := X.aE; have zE := X.zE
 have HC : Aside (CmpLays P g cb enc k cf blk off d0.size w0) := hC
 clear hC
 have eR : ∀ args w, (callFunc 177 args).run P w = .ok (.enter 177 args) w := enters_of X.fR (by kernel_rfl) rfl
 have eM : ∀ args w, (callFunc 173 args).run P w = .ok (.enter 173 args) w := enters_of X.fM (by kernel_rfl) rfl
 rw [hs] at ih
 have HI : Aside (∀ (a m b : Nat) (d' : Array α) (w : World), b - a < N → a < m → m < b → b ≤ d.size → SZ enc k w0 blk off d.size d' w → Calls P 173 #[.slice (some ⟨blk, off, none⟩) d.size cap, .int .i64 a, .int .i64 m, .int .i64 b, .func (.func g) #[] cb] w fun e w' => e = .returned (.tuple #[]) ∧ ∃ d'', Merged (ltOf cf) a m b d' d'' ∧ SZ enc k w0 blk off d.size d'' w') := ih
 clear ih
 rw [hs]
 have S0 : Aside (SWK enc k w0 blk off d w) := S
 clear S
 have hma : (((m : Int) - (a : Int)) == 1) = false := by simp; omega
 have hbz : (((b : Int) - (m : Int)) == 1) = false := by simp; omega
 have hmidz : ((a : Int) + (b : Int)) / 2 = (mid : Int) := by omega
 have HMID : Hid (mid = (a + b) / 2) := hmid
 have g1 : 2 * mid ≤ a + b := by omega
 have g2 : a + b ≤ 2 * mid + 1 := by omega
 clear hmid
 have HCC : Hid ((mid < m ∧ lo = mid + m - b ∧ hi = mid) ∨ (m ≤ mid ∧ lo = a ∧ hi = m)) := hc
 have b1 : a ≤ lo := by omega
 have b2 : lo ≤ hi := by omega
 have b3 : hi ≤ m := by omega
 have b4 : hi ≤ mid := by omega
 have b5 : mid + m ≤ b + lo := by omega
 have FIN : Hid (∀ start, lo ≤ start → start ≤ hi → (lo < start → ltOf cf d[mid + m - start]! d[start - 1]! = false) → (start < hi → ltOf cf d[mid + m - 1 - start]! d[start]! = true) → ∀ d1 d2 d3, PermIn start (mid + m - start) d d1 → Rot d d1 start m (mid + m - start) → Merged (ltOf cf) a start mid d1 d2 → Merged (ltOf cf) mid (mid + m - start) b d2 d3 → Merged (ltOf cf) a m b d d3) := fun start h1 h2 h3 h4 d1 d2 d3 p r m1 m2 => merged_mid hO hb (by omega) (by omega) HMID.out HCC.out h1 h2 h3 h4 p r m1 m2
 clear HCC hc HMID
 obtain ⟨q1, q2, q3, q4, q5⟩ := hcase
 all_goals
  go_enter X.fM, Tryz.ntmps173
  go_wp2
  go_loopg [20, 21] (b - a) (fun kx s20 s21 wr => ∃ (i j : Nat), s20 = .int .i64 i ∧ s21 = .int .i64 j ∧ lo ≤ i ∧ i ≤ j ∧ j ≤ hi ∧ j - i ≤ kx ∧ Hid (lo < i → ltOf cf d[mid + m - i]! d[i - 1]! = false) ∧ Hid (j < hi → ltOf cf d[mid + m - 1 - j]! d[j]! = true) ∧ Aside (SWK enc k w0 blk off d wr))
  case atStart => first | exact ⟨lo, mid, rfl, rfl, Nat.le_refl _, by omega, by omega, by omega, (fun h => absurd h (by omega) : lo < lo → _), (fun h => absurd h (by omega) : mid < hi → _), S0⟩ | exact ⟨a, m, rfl, rfl, by omega, by omega, by omega, by omega, (fun h => absurd h (by omega) : lo < a → _), (fun h => absurd h (by omega) : m < hi → _), S0⟩
  case round =>
   clear S0
   obtain ⟨i, j, rfl, rfl, hai, hij, hjb, hkx, H1, H2, S1⟩ := hrel
   by_cases hlt : i < j
   ·have hltz : (i : Int) < (j : Int) := by omega
    obtain ⟨h, hh⟩ : ∃ h, h = (i + j) / 2 := ⟨_, rfl⟩
    have hhz : ((i : Int) + (j : Int)) / 2 = (h : Int) := by omega
    have hh1 : i ≤ h := by omega
    have hh2 : h < j := by omega
    clear hh
    obtain ⟨q, hq⟩ : ∃ q, q = mid + m - 1 - h := ⟨_, rfl⟩
    have hqz : (mid : Int) + (m : Int) - 1 - (h : Int) = (q : Int) := by omega
    have hqd : (q : Int) < (d.size : Int) := by omega
    have hqw : IntKind.i64.wrap (q : Int) = (q : Int) := by rw [IntKind.wrap_i64]; omega
    have HQ : Hid (q = mid + m - 1 - h) := hq
    clear hq
    have lx := fun n os => S1.out.ld R (by omega) P (q) (by omega) n os
    have ly := fun n os => S1.out.ld R (by omega) P (h) (by omega) n os
    have hcg := fun n os => S1.out.cmp HC.out (by omega) d[q]! d[h]! n os
    have CLS : Hid (∀ n os, SWK enc k w0 blk off d (grow (wr.drewN n) os)) := fun n os => S1.out.grown n os
    generalize hxe : d[q]! = x at lx hcg
    generalize hye : d[h]! = y at ly hcg
    have HXE : Hid (d[q]! = x) := hxe
    have HYE : Hid (d[h]! = y) := hye
    clear hxe hye S1
    have hhd : (h : Int) < (d.size : Int) := by omega
    by_cases hlv : cf x y < 0
    ·have N2 : Hid (h < hi → ltOf cf d[mid + m - 1 - h]! d[h]! = true) := fun _ => by rw [← HQ.out, HXE.out, HYE.out]; exact lt_yes hlv
     have hdv : decide (cf x y < 0) = true := decide_eq_true hlv
     go_wp2_with fail
     go_quiet_grown (first | (go_at_fn g; refine Calls.grown_of (hcg _ _)))
     have S2 : Aside (SWK enc k w0 blk off d (grow (wr.drewN nq) osq)) := CLS.out nq osq
     clear CLS lx ly hcg
     generalize grow (wr.drewN nq) osq = w2 at S2 ⊢
     go_wp2
     go_roundg (h - i)
     case measure => omega
     case rel => exact ⟨i, h, rfl, rfl, hai, hh1, by omega, Nat.le_refl _, H1, N2, S2⟩
    ·have N1 : Hid (lo < h + 1 → ltOf cf d[mid + m - (h + 1)]! d[h + 1 - 1]! = false) := fun _ => by
      have e : mid + m - (h + 1) = mid + m - 1 - h := by omega
      rw [e, Nat.add_sub_cancel, ← HQ.out, HXE.out, HYE.out]; exact lt_no hlv
     have hdv : decide (cf x y < 0) = false := decide_eq_false hlv
     go_wp2_with fail
     go_quiet_grown (first | (go_at_fn g; refine Calls.grown_of (hcg _ _)))
     have S2 : Aside (SWK enc k w0 blk off d (grow (wr.drewN nq) osq)) := CLS.out nq osq
     clear CLS lx ly hcg
     generalize grow (wr.drewN nq) osq = w2 at S2 ⊢
     go_wp2
     go_roundg (j - (h + 1))
     case measure => omega
     case rel => exact ⟨h + 1, j, by go_num, rfl, by omega, by omega, hjb, Nat.le_refl _, N1, H2, S2⟩
   ·have hji : j = i := by omega
    subst hji
    have hnot : ¬ (j : Int) < (j : Int) := by omega
    have FIN' := FIN.out j hai hjb H1.out H2.out
    obtain ⟨en, hen⟩ : ∃ en, en = mid + m - j := ⟨_, rfl⟩
    have hez : (mid : Int) + (m : Int) - (j : Int) = (en : Int) := by omega
    rw [← hen] at FIN'
    have e1 : en + j ≤ mid + m := by omega
    have e2 : mid + m ≤ en + j := by omega
    have FIN : Hid (∀ d1 d2 d3, PermIn j en d d1 → Rot d d1 j m en → Merged (ltOf cf) a j mid d1 d2 → Merged (ltOf cf) mid en b d2 d3 → Merged (ltOf cf) a m b d d3) := FIN'
    clear hen FIN' H1 H2 hij
    have Z0 : Aside (SZ enc k w0 blk off d.size d wr) := ⟨rfl, S1.out⟩
    have R1 : Hid (¬ (j < m ∧ m < en) → Rot d d j m en ∧ PermIn j en d d) := fun h => by
     refine ⟨?_, permIn_refl d j en⟩
     by_cases h' : j < m
     ·obtain rfl : en = m := by omega
      exact Rot.refl_right d j en
     ·obtain rfl : j = m := by omega
      exact Rot.refl_left d j en
    have R2 : Hid (∀ d' : Array α, ¬ (a < j ∧ j < mid) → Merged (ltOf cf) a j mid d' d') := fun d' h => Merged.none _ d' (by omega) (by omega) (by omega)
    have R3 : Hid (∀ d' : Array α, ¬ (mid < en ∧ en < b) → Merged (ltOf cf) mid en b d' d') := fun d' h => Merged.none _ d' (by omega) (by omega) (by omega)
    have hRot : Aside (j < m → m < en → Calls P 177 #[.slice (some ⟨blk, off, none⟩) d.size cap, .int .i64 j, .int .i64 m, .int .i64 en, .func (.func g) #[] cb] wr fun e w' => e = .returned (.tuple #[]) ∧ ∃ d1, Rot d d1 j m en ∧ PermIn j en d d1 ∧ SZ enc k w0 blk off d.size d1 w') := fun h1 h2 => (rotate_any X enc (.func (.func g) #[] cb) blk off cap j m en d0 d w0 wr R hs S1.out h1 h2 (by omega) (by omega)).mono fun e w' ⟨he, d1, hr, hp, S⟩ => ⟨he, d1, hr, hp, hp.1, S⟩
    have hM1 : Aside (a < j → j < mid → ∀ d1 w1, SZ enc k w0 blk off d.size d1 w1 → Calls P 173 #[.slice (some ⟨blk, off, none⟩) d.size cap, .int .i64 a, .int .i64 j, .int .i64 mid, .func (.func g) #[] cb] w1 fun e w' => e = .returned (.tuple #[]) ∧ ∃ d', Merged (ltOf cf) a j mid d1 d' ∧ SZ enc k w0 blk off d.size d' w') := fun h1 h2 d1 w1 z => HI.out a j mid d1 w1 (by omega) h1 h2 (by omega) z
    have hM2 : Aside (mid < en → en < b → ∀ d1 w1, SZ enc k w0 blk off d.size d1 w1 → Calls P 173 #[.slice (some ⟨blk, off, none⟩) d.size cap, .int .i64 mid, .int .i64 en, .int .i64 b, .func (.func g) #[] cb] w1 fun e w' => e = .returned (.tuple #[]) ∧ ∃ d', Merged (ltOf cf) mid en b d1 d' ∧ SZ enc k w0 blk off d.size d' w') := fun h1 h2 d1 w1 z => HI.out mid en b d1 w1 (by omega) h1 h2 (by omega) z
    clear HI S1
    have A1 : ((j : Int) < (m : Int) ∧ j < m) ∨ (¬ (j : Int) < (m : Int) ∧ ¬ j < m) := by omega
    have A2 : ((m : Int) < (en : Int) ∧ (j : Int) < (mid : Int) ∧ m < en ∧ j < mid) ∨ (¬ (m : Int) < (en : Int) ∧ ¬ (j : Int) < (mid : Int) ∧ ¬ m < en ∧ ¬ j < mid) := by omega
    have A3 : ((a : Int) < (j : Int) ∧ a < j) ∨ (¬ (a : Int) < (j : Int) ∧ ¬ a < j) := by omega
    have A4 : ((en : Int) < (b : Int) ∧ en < b) ∨ (¬ (en : Int) < (b : Int) ∧ ¬ en < b) := by omega
    have A5 : ((mid : Int) < (en : Int) ∧ mid < en) ∨ (¬ (mid : Int) < (en : Int) ∧ ¬ mid < en) := by omega
    rcases A1 with ⟨c1, k1⟩ | ⟨c1, k1⟩ <;> rcases A2 with ⟨c2, c2', k2, k2'⟩ | ⟨c2, c2', k2, k2'⟩ <;> rcases A3 with ⟨c3, k3⟩ | ⟨c3, k3⟩ <;> rcases A4 with ⟨c4, k4⟩ | ⟨c4, k4⟩ <;> rcases A5 with ⟨c5, k5⟩ | ⟨c5, k5⟩ <;> first | (exfalso; omega) | skip
    all_goals
     go_wp2_with (first
      | (go_at_fn 177; refine (hRot.out k1 k2).mono ?_; rintro e w1 ⟨rfl, d1, hr1, hp1, Z1⟩; clear hRot)
      | (go_at_call_of 173 (Value.int .i64 (a : Int)); (first | refine (hM1.out k3 k2' _ _ Z1).mono ?_ | refine (hM1.out k3 k2' _ _ Z0.out).mono ?_); rintro e w2 ⟨rfl, d2, hm1, Z2⟩; clear hM1)
      | (go_at_call_of 173 (Value.int .i64 (b : Int)); (first | refine (hM2.out k5 k4 _ _ Z2).mono ?_ | refine (hM2.out k5 k4 _ _ Z1).mono ?_ | refine (hM2.out k5 k4 _ _ Z0.out).mono ?_); rintro e w3 ⟨rfl, d3, hm2, Z3⟩; clear hM2))
     go_end0
     first | (exact ⟨rfl, d3, FIN.out d1 d2 d3 hp1 hr1 hm1 hm2, Z3⟩) | (exact ⟨rfl, d2, FIN.out d1 d2 d2 hp1 hr1 hm1 (R3.out d2 (by omega)), Z2⟩) | (exact ⟨rfl, d3, FIN.out d1 d1 d3 hp1 hr1 (R2.out d1 (by omega)) hm2, Z3⟩) | (exact ⟨rfl, d1, FIN.out d1 d1 d1 hp1 hr1 (R2.out d1 (by omega)) (R3.out d1 (by omega)), Z1⟩) | (exact ⟨rfl, d3, FIN.out d d2 d3 (R1.out (by omega)).2 (R1.out (by omega)).1 hm1 hm2, Z3⟩) | (exact ⟨rfl, d2, FIN.out d d2 d2 (R1.out (by omega)).2 (R1.out (by omega)).1 hm1 (R3.out d2 (by omega)), Z2⟩) | (exact ⟨rfl, d3, FIN.out d d d3 (R1.out (by omega)).2 (R1.out (by omega)).1 (R2.out d (by omega)) hm2, Z3⟩) | (exact ⟨rfl, d, FIN.out d d d (R1.out (by omega)).2 (R1.out (by omega)).1 (R2.out d (by omega)) (R3.out d (by omega)), Z0.out⟩)
end Go.Proofs.YtefkchmahcjleaaGreatDoor
namespace Go.Proofs.YtefkchmahcjleaaGreatDoor
open Go.Shelf Go.RowKit Go.Lib Go.Sort
variable {P : Program} {k : Nat} {α : Type} [Inhabited α]
theorem sym_any (X : St P k) (enc : α → List Value) (cf : α → α → Int) (g : Nat) (cb : Array Value) (hO : SWO (ltOf cf)) (blk off cap : Nat) (d0 : Array α) (w0 : World)
  (eg : ∀ args w, (callFunc g args).run P w = .ok (.enter g args) w) (hC : CmpLays P g cb enc k cf blk off d0.size w0) (R : RowK enc k w0 blk off d0) (hsz : d0.size < 2305843009213693952) :
  ∀ (N a m b : Nat) (d : Array α) (w : World), b - a < N → a < m → m < b → b ≤ d0.size → SZ enc k w0 blk off d0.size d w → Calls P 173 #[.slice (some ⟨blk, off, none⟩) d0.size cap, .int .i64 a, .int .i64 m, .int .i64 b, .func (.func g) #[] cb] w fun e w' => e = .returned (.tuple #[]) ∧ ∃ d', Merged (ltOf cf) a m b d d' ∧ SZ enc k w0 blk off d0.size d' w' := by
 intro N
 induction N with
 | zero => intro a m b d w h; exact absurd h (Nat.not_lt_zero _)
 | succ N ih =>
  intro a m b d w hN ham hmb hb hZ
  have hs : d0.size = d.size := hZ.1.symm
  by_cases h1 : m ≤ a + 1
  ·have h := sym_left X enc cf g cb hO blk off cap d0 w0 eg hC R a m b d w hs hZ.2 ham h1 hmb (by omega) (by omega)
   rw [← hs] at h
   exact h.mono fun e w' ⟨he, d', hm, hS⟩ => ⟨he, d', hm, by rw [hs]; exact hm.1.1, hS⟩
  ·by_cases h2 : b ≤ m + 1
   ·have h := sym_right X enc cf g cb hO blk off cap d0 w0 eg hC R a m b d w hs hZ.2 (by omega) hmb h2 (by omega) (by omega)
    rw [← hs] at h
    exact h.mono fun e w' ⟨he, d', hm, hS⟩ => ⟨he, d', hm, by rw [hs]; exact hm.1.1, hS⟩
   ·have h : Calls P 173 #[.slice (some ⟨blk, off, none⟩) d.size cap, .int .i64 a, .int .i64 m, .int .i64 b, .func (.func g) #[] cb] w fun e w' => e = .returned (.tuple #[]) ∧ ∃ d', Merged (ltOf cf) a m b d d' ∧ SZ enc k w0 blk off d0.size d' w' := by
     by_cases h3 : (a + b) / 2 < m
     ·exact sym_midA X enc cf g cb hO blk off cap d0 w0 eg hC R N ih a m b d w hN hs hZ.2 (by omega) (by omega) (by omega) (by omega) ((a + b) / 2) ((a + b) / 2 + m - b) ((a + b) / 2) rfl (Or.inl ⟨h3, rfl, rfl⟩) (by omega)
     ·exact sym_midB X enc cf g cb hO blk off cap d0 w0 eg hC R N ih a m b d w hN hs hZ.2 (by omega) (by omega) (by omega) (by omega) ((a + b) / 2) a m rfl (Or.inr ⟨by omega, rfl, rfl⟩) (by omega)
    rw [← hs] at h
    exact h
end Go.Proofs.YtefkchmahcjleaaGreatDoor
