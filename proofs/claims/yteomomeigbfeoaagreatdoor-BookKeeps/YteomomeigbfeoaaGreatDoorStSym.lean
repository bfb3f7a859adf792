/-
 What slices.symMergeCmpFunc does to a row of elements of k cells: it merges two parts that are sorted into one, and leaves what is sorted; over any program that holds its bodies, for a comparison that is a strict weak order.
-/
import Derived.Test.YteomomeigbfeoaaGreatDoorJz23
set_option maxRecDepth 100000
set_option maxHeartbeats 16000000
namespace Go.Proofs.YteomomeigbfeoaaGreatDoor
open Go.Shelf Go.RowKit Go.Lib Go.Sort
variable {P : Program} {k : Nat} {α : Type} [Inhabited α]
omit [Inhabited α] in
theorem lt_yes {cf : α → α → Int} {x y : α} (h : cf x y < 0) : ltOf cf x y = true := decide_eq_true h
omit [Inhabited α] in
theorem lt_no {cf : α → α → Int} {x y : α} (h : ¬ cf x y < 0) : ltOf cf x y = false := decide_eq_false h
abbrev MergePost (enc : α → List Value) (k : Nat) (cf : α → α → Int) (w0 : World) (blk off a m b : Nat) (d : Array α) (e : Ending) (w' : World) : Prop :=
 e = .returned (.tuple #[]) ∧ ∃ d', Merged (ltOf cf) a m b d d' ∧ SWK enc k w0 blk off d' w'
theorem sym_left (X : St P k) (enc : α → List Value) (cf : α → α → Int) (g : Nat) (cb : Array Value) (hO : SWO (ltOf cf)) (blk off cap : Nat) (d0 : Array α) (w0 : World)
  (eg : ∀ args w, (callFunc g args).run P w = .ok (.enter g args) w) (hC : CmpLays P g cb enc k cf blk off d0.size w0) (R : RowK enc k w0 blk off d0) (a m b : Nat) (d : Array α) (w : World) (hs : d0.size = d.size) (S : SWK enc k w0 blk off d w) (ham : a < m) (hm : m ≤ a + 1) (hmb : m < b) (hb : b ≤ d.size) (hsz : d.size < 2305843009213693952) :
  Calls P 183 #[.slice (some ⟨blk, off, none⟩) d.size cap, .int .i64 a, .int .i64 m, .int .i64 b, .func (.func g) #[] cb] w (MergePost enc k cf w0 blk off a m b d) := by
 have mixed := X.mixed; have t0 := X.t0; have a0 := X.a0; have z0 := X.z0; have v0 := X.v0; have t3 := X.t3; have a3 := X.a3; have z3 := X.z3; have v3 := X.v3; have t4 := X.t4; have a4 := X.a4; have z4 := X.z4; have v4 := X.v4; have tU := X.tU; have aU := X.aU; have zU := X.zU; have vU := X.vU; have tL := X.tL; have aL := X.aL; have zL := X.zL; have vL := X.vL; have tF := X.tF; have aF := X.aF; have zF := X.zF; have vF := X.vF; have aE := X.aE; have zE := X.zE
 have HC : Aside (CmpLays P g cb enc k cf blk off d0.size w0) := hC
 clear hC
 have hmz : (((m : Int) - (a : Int)) == 1) = true := by simp; omega
 have S0 : Aside (SWK enc k w0 blk off d w) := S
 clear S
 go_enter X.fM, Tryz.ntmps183
 go_wp2
 go_loopg [10, 11] (b - a) (fun kx s10 s11 wr => ∃ (i j : Nat), s10 = .int .i64 i ∧ s11 = .int .i64 j ∧ a + 1 ≤ i ∧ i ≤ j ∧ j ≤ b ∧ j - i ≤ kx ∧ Hid (a + 1 < i → ltOf cf d[i - 1]! d[a]! = true) ∧ Hid (j < b → ltOf cf d[j]! d[a]! = false) ∧ Aside (SWK enc k w0 blk off d wr))
 case atStart => exact ⟨m, b, rfl, rfl, by omega, by omega, Nat.le_refl _, by omega, (fun h => absurd h (by omega) : a + 1 < m → _), (fun h => absurd h (by omega) : b < b → _), S0⟩
 case round =>
  clear S0
  obtain ⟨i, j, rfl, rfl, hai, hij, hjb, hkx, H1, H2, S1⟩ := hrel
  by_cases hlt : i < j
  ·have hltz : (i : Int) < (j : Int) := by omega
   obtain ⟨h, hh⟩ : ∃ h, h = (i + j) / 2 := ⟨_, rfl⟩
   have hhz : ((i : Int) + (j : Int)) / 2 = (h : Int) := by omega
   have hh1 : i ≤ h := by omega
   have hh2 : h < j := by omega
   clear hh
   have lx := fun n os => S1.out.ld R (by omega) P (h) (by omega) n os
   have ly := fun n os => S1.out.ld R (by omega) P (a) (by omega) n os
   have hcg := fun n os => S1.out.cmp HC.out (by omega) d[h]! d[a]! n os
   have CLS : Hid (∀ n os, SWK enc k w0 blk off d (grow (wr.drewN n) os)) := fun n os => S1.out.grown n os
   generalize hxe : d[h]! = x at lx hcg
   generalize hye : d[a]! = y at ly hcg
   have HXE : Hid (d[h]! = x) := hxe
   have HYE : Hid (d[a]! = y) := hye
   clear hxe hye S1
   have hhd : (h : Int) < (d.size : Int) := by omega
   have had : (a : Int) < (d.size : Int) := by omega
   by_cases hlv : cf x y < 0
   ·have N1 : Hid (a + 1 < h + 1 → ltOf cf d[h + 1 - 1]! d[a]! = true) := fun _ => by rw [Nat.add_sub_cancel, HXE.out, HYE.out]; exact lt_yes hlv
    go_wp2_with fail
    go_quiet_grown (first | (go_at_fn g; refine Calls.grown_of (hcg _ _)))
    have S2 : Aside (SWK enc k w0 blk off d (grow (wr.drewN nq) osq)) := CLS.out nq osq
    clear CLS lx ly hcg
    generalize grow (wr.drewN nq) osq = w2 at S2 ⊢
    go_wp2
    go_roundg (j - (h + 1))
    case measure => omega
    case rel => exact ⟨h + 1, j, by go_num, rfl, by omega, by omega, hjb, Nat.le_refl _, N1, H2, S2⟩
   ·have N2 : Hid (h < b → ltOf cf d[h]! d[a]! = false) := fun _ => by rw [HXE.out, HYE.out]; exact lt_no hlv
    go_wp2_with fail
    go_quiet_grown (first | (go_at_fn g; refine Calls.grown_of (hcg _ _)))
    have S2 : Aside (SWK enc k w0 blk off d (grow (wr.drewN nq) osq)) := CLS.out nq osq
    clear CLS lx ly hcg
    generalize grow (wr.drewN nq) osq = w2 at S2 ⊢
    go_wp2
    go_roundg (h - i)
    case measure => omega
    case rel => exact ⟨i, h, rfl, rfl, hai, hh1, by omega, Nat.le_refl _, H1, N2, S2⟩
  ·have hji : j = i := by omega
   subst hji
   have hnot : ¬ (j : Int) < (j : Int) := by omega
   obtain ⟨ip, rfl⟩ : ∃ ip, j = ip + 1 := ⟨j - 1, by omega⟩
   go_wp2
   go_loopg [13] (b - a) (fun kx s13 wr2 => ∃ (t : Nat) (dk : Array α), s13 = .int .i64 t ∧ a ≤ t ∧ t ≤ ip ∧ ip - t ≤ kx ∧ dk.size = d.size ∧ Hid (Rot d dk a (a + 1) (t + 1)) ∧ Hid (PermIn a b d dk) ∧ Aside (SWK enc k w0 blk off dk wr2))
   case atStart => exact ⟨a, d, rfl, Nat.le_refl _, by omega, by omega, rfl, Rot.up0 d a, permIn_refl d a b, S1⟩
   case round =>
    clear S1
    obtain ⟨t, dk, rfl, hat, htp, hkx2, hds, HR, HP, S1⟩ := hrel
    by_cases htl : t < ip
    ·have htlz : (t : Int) < (ip : Int) := by omega
     have NR : Hid (Rot d (swp dk t (t + 1)) a (a + 1) (t + 2)) := HR.out.up hat (by omega)
     have NP : Hid (PermIn a b d (swp dk t (t + 1))) := perm_exch_step HP.out hat (by omega) (by omega) (by omega) hb
     clear HR HP
     go_wp2_with fail
     have ea44 : ((t : Int)).toNat = t := by omega
     have pa44 : (0 : Int) ≤ (t : Int) := by omega
     have ba44 : (t : Int) < (d.size : Int) := by omega
     have ra44 : IntKind.i64.wrap ((t : Int)) = (t : Int) := by rw [IntKind.wrap_i64]; omega
     have ec44 : ((t : Int) + 1).toNat = t + 1 := by omega
     have pc44 : (0 : Int) ≤ (t : Int) + 1 := by omega
     have bc44 : (t : Int) + 1 < (d.size : Int) := by omega
     have rc44 : IntKind.i64.wrap ((t : Int) + 1) = (t : Int) + 1 := by rw [IntKind.wrap_i64]; omega
     have S2 : Aside (SWK enc k w0 blk off (swp dk (t) (t + 1)) ((wr.drew.setCells blk (off + (t) * k) (enc dk[t + 1]!)).setCells blk (off + (t + 1) * k) (enc dk[t]!))) := S1.out.swapped R (t) (t + 1) (by omega) (by omega)
     have l44a := S1.out.ld1 R (by omega) P (t) (by omega)
     have l44b := S1.out.ld1 R (by omega) P (t + 1) (by omega)
     have s44a := S1.out.st1 R (by omega) P (t) (by omega) dk[t + 1]!
     have s44b := S1.out.st2 R (by omega) P (t) (t + 1) (by omega) (by omega) dk[t + 1]! dk[t]!
     have n44a : (enc dk[t]!).length = k := R.hk _
     have n44b : (enc dk[t + 1]!).length = k := R.hk _
     generalize enc dk[t]! = cI44 at S2 l44a s44b n44a
     generalize enc dk[t + 1]! = cJ44 at S2 l44b s44a s44b n44b
     clear S1
     go_wp2_with fail
     go_big_region_o
     clear l44a l44b s44a s44b
     generalize (wr.drew.setCells blk (off + (t) * k) cJ44).setCells blk (off + (t + 1) * k) cI44 = w2 at S2 ⊢
     go_wp2
     go_roundg (ip - (t + 1))
     case measure => omega
     case rel => exact ⟨t + 1, swp dk t (t + 1), by go_num, by omega, by omega, Nat.le_refl _, by rw [size_swp]; exact hds, NR, NP, S2⟩
    ·have htz : ¬ (t : Int) < (ip : Int) := by omega
     have hte : t = ip := by omega
     go_wp2
     (try simp only [Exit.inBlock, Exit.then]); refine bodyPost_ret (results_none rfl _ _ _) rfl ?_
     refine ⟨rfl, dk, ?_, S1.out⟩
     have hr := HR.out
     rw [hte] at hr
     obtain rfl : m = a + 1 := by omega
     exact merged_one_left hO (by omega) hjb HP.out hr H1.out H2.out
theorem sym_right (X : St P k) (enc : α → List Value) (cf : α → α → Int) (g : Nat) (cb : Array Value) (hO : SWO (ltOf cf)) (blk off cap : Nat) (d0 : Array α) (w0 : World)
  (eg : ∀ args w, (callFunc g args).run P w = .ok (.enter g args) w) (hC : CmpLays P g cb enc k cf blk off d0.size w0) (R : RowK enc k w0 blk off d0) (a m b : Nat) (d : Array α) (w : World) (hs : d0.size = d.size) (S : SWK enc k w0 blk off d w) (ham : a + 1 < m) (hmb : m < b) (hbm : b ≤ m + 1) (hb : b ≤ d.size) (hsz : d.size < 2305843009213693952) :
  Calls P 183 #[.slice (some ⟨blk, off, none⟩) d.size cap, .int .i64 a, .int .i64 m, .int .i64 b, .func (.func g) #[] cb] w (MergePost enc k cf w0 blk off a m b d) := by
 have mixed := X.mixed; have t0 := X.t0; have a0 := X.a0; have z0 := X.z0; have v0 := X.v0; have t3 := X.t3; have a3 := X.a3; have z3 := X.z3; have v3 := X.v3; have t4 := X.t4; have a4 := X.a4; have z4 := X.z4; have v4 := X.v4; have tU := X.tU; have aU := X.aU; have zU := X.zU; have vU := X.vU; have tL := X.tL; have aL := X.aL; have zL := X.zL; have vL := X.vL; have tF := X.tF; have aF := X.aF; have zF := X.zF; have vF := X.vF; have aE := X.aE; have zE := X.zE
 have HC : Aside (CmpLays P g cb enc k cf blk off d0.size w0) := hC
 clear hC
 have S0 : Aside (SWK enc k w0 blk off d w) := S
 clear S
 have hma : (((m : Int) - (a : Int)) == 1) = false := by simp; omega
 have hbz : (((b : Int) - (m : Int)) == 1) = true := by simp; omega
 go_enter X.fM, Tryz.ntmps183
 go_wp2
 go_loopg [14, 15] (m - a) (fun kx s10 s11 wr => ∃ (i j : Nat), s10 = .int .i64 i ∧ s11 = .int .i64 j ∧ a ≤ i ∧ i ≤ j ∧ j ≤ m ∧ j - i ≤ kx ∧ Hid (a < i → ltOf cf d[m]! d[i - 1]! = false) ∧ Hid (j < m → ltOf cf d[m]! d[j]! = true) ∧ Aside (SWK enc k w0 blk off d wr))
 case atStart => exact ⟨a, m, rfl, rfl, Nat.le_refl _, by omega, Nat.le_refl _, by omega, (fun h => absurd h (by omega) : a < a → _), (fun h => absurd h (by omega) : m < m → _), S0⟩
 case round =>
  clear S0
  obtain ⟨i, j, rfl, rfl, hai, hij, hjb, hkx, H1, H2, S1⟩ := hrel
  by_cases hlt : i < j
  ·have hltz : (i : Int) < (j : Int) := by omega
   obtain ⟨h, hh⟩ : ∃ h, h = (i + j) / 2 := ⟨_, rfl⟩
   have hhz : ((i : Int) + (j : Int)) / 2 = (h : Int) := by omega
   have hh1 : i ≤ h := by omega
   have hh2 : h < j := by omega
   clear hh
   have lx := fun n os => S1.out.ld R (by omega) P (m) (by omega) n os
   have ly := fun n os => S1.out.ld R (by omega) P (h) (by omega) n os
   have hcg := fun n os => S1.out.cmp HC.out (by omega) d[m]! d[h]! n os
   have CLS : Hid (∀ n os, SWK enc k w0 blk off d (grow (wr.drewN n) os)) := fun n os => S1.out.grown n os
   generalize hxe : d[m]! = x at lx hcg
   generalize hye : d[h]! = y at ly hcg
   have HXE : Hid (d[m]! = x) := hxe
   have HYE : Hid (d[h]! = y) := hye
   clear hxe hye S1
   have hhd : (h : Int) < (d.size : Int) := by omega
   have had : (m : Int) < (d.size : Int) := by omega
   by_cases hlv : cf x y < 0
   ·have N2 : Hid (h < m → ltOf cf d[m]! d[h]! = true) := fun _ => by rw [HXE.out, HYE.out]; exact lt_yes hlv
    have hdv : decide (cf x y < 0) = true := decide_eq_true hlv
    go_wp2_with fail
    go_quiet_grown (first | (go_at_fn g; refine Calls.grown_of (hcg _ _)))
    have S2 : Aside (SWK enc k w0 blk off d (grow (wr.drewN nq) osq)) := CLS.out nq osq
    clear CLS lx ly hcg
    generalize grow (wr.drewN nq) osq = w2 at S2 ⊢
    go_wp2
    go_roundg (h - i)
    case measure => omega
    case rel => exact ⟨i, h, rfl, rfl, hai, hh1, by omega, Nat.le_refl _, H1, N2, S2⟩
   ·have N1 : Hid (a < h + 1 → ltOf cf d[m]! d[h + 1 - 1]! = false) := fun _ => by rw [Nat.add_sub_cancel, HXE.out, HYE.out]; exact lt_no hlv
    have hdv : decide (cf x y < 0) = false := decide_eq_false hlv
    go_wp2_with fail
    go_quiet_grown (first | (go_at_fn g; refine Calls.grown_of (hcg _ _)))
    have S2 : Aside (SWK enc k w0 blk off d (grow (wr.drewN nq) osq)) := CLS.out nq osq
    clear CLS lx ly hcg
    generalize grow (wr.drewN nq) osq = w2 at S2 ⊢
    go_wp2
    go_roundg (j - (h + 1))
    case measure => omega
    case rel => exact ⟨h + 1, j, by go_num, rfl, by omega, by omega, hjb, Nat.le_refl _, N1, H2, S2⟩
  ·have hji : j = i := by omega
   subst hji
   have hnot : ¬ (j : Int) < (j : Int) := by omega
   go_wp2
   go_loopg [17] (m - a) (fun kx s13 wr2 => ∃ (t : Nat) (dk : Array α), s13 = .int .i64 t ∧ j ≤ t ∧ t ≤ m ∧ t - j ≤ kx ∧ dk.size = d.size ∧ Hid (Rot d dk t m (m + 1)) ∧ Hid (PermIn a (m + 1) d dk) ∧ Aside (SWK enc k w0 blk off dk wr2))
   case atStart => exact ⟨m, d, rfl, hjb, Nat.le_refl _, by omega, rfl, Rot.down0 d m, permIn_refl d a (m + 1), S1⟩
   case round =>
    clear S1
    obtain ⟨t, dk, rfl, hat, htp, hkx2, hds, HR, HP, S1⟩ := hrel
    by_cases htl : j < t
    ·obtain ⟨tp, rfl⟩ : ∃ tp, t = tp + 1 := ⟨t - 1, by omega⟩
     have htlz : (j : Int) < (tp : Int) + 1 := by omega
     have NR : Hid (Rot d (swp dk (tp + 1) tp) tp m (m + 1)) := HR.out.down (by omega) (by omega)
     have NP : Hid (PermIn a (m + 1) d (swp dk (tp + 1) tp)) := perm_exch_step HP.out (by omega) (by omega) (by omega) (by omega) (by omega)
     clear HR HP
     go_wp2_with fail
     have ea44 : ((tp : Int) + 1).toNat = tp + 1 := by omega
     have pa44 : (0 : Int) ≤ (tp : Int) + 1 := by omega
     have ba44 : (tp : Int) + 1 < (d.size : Int) := by omega
     have ra44 : IntKind.i64.wrap ((tp : Int) + 1) = (tp : Int) + 1 := by rw [IntKind.wrap_i64]; omega
     have ec44 : ((tp : Int)).toNat = tp := by omega
     have pc44 : (0 : Int) ≤ (tp : Int) := by omega
     have bc44 : (tp : Int) < (d.size : Int) := by omega
     have rc44 : IntKind.i64.wrap ((tp : Int)) = (tp : Int) := by rw [IntKind.wrap_i64]; omega
     have S2 : Aside (SWK enc k w0 blk off (swp dk (tp + 1) (tp)) ((wr.drew.setCells blk (off + (tp + 1) * k) (enc dk[tp]!)).setCells blk (off + (tp) * k) (enc dk[tp + 1]!))) := S1.out.swapped R (tp + 1) (tp) (by omega) (by omega)
     have l44a := S1.out.ld1 R (by omega) P (tp + 1) (by omega)
     have l44b := S1.out.ld1 R (by omega) P (tp) (by omega)
     have s44a := S1.out.st1 R (by omega) P (tp + 1) (by omega) dk[tp]!
     have s44b := S1.out.st2 R (by omega) P (tp + 1) (tp) (by omega) (by omega) dk[tp]! dk[tp + 1]!
     have n44a : (enc dk[tp + 1]!).length = k := R.hk _
     have n44b : (enc dk[tp]!).length = k := R.hk _
     generalize enc dk[tp + 1]! = cI44 at S2 l44a s44b n44a
     generalize enc dk[tp]! = cJ44 at S2 l44b s44a s44b n44b
     clear S1
     go_wp2_with fail
     go_big_region_o
     clear l44a l44b s44a s44b
     generalize (wr.drew.setCells blk (off + (tp + 1) * k) cJ44).setCells blk (off + (tp) * k) cI44 = w2 at S2 ⊢
     go_wp2
     go_roundg (tp - j)
     case measure => omega
     case rel => exact ⟨tp, swp dk (tp + 1) tp, by first | rfl | go_num | (congr 1; omega), by omega, by omega, Nat.le_refl _, by rw [size_swp]; exact hds, NR, NP, S2⟩
    ·have htz : ¬ (j : Int) < (t : Int) := by omega
     have hte : t = j := by omega
     go_wp2
     (try simp only [Exit.inBlock, Exit.then]); refine bodyPost_ret (results_none rfl _ _ _) rfl ?_
     refine ⟨rfl, dk, ?_, S1.out⟩
     have hr := HR.out
     rw [hte] at hr
     obtain rfl : b = m + 1 := by omega
     exact merged_one_right hO hai hjb HP.out hr H1.out H2.out
end Go.Proofs.YteomomeigbfeoaaGreatDoor
