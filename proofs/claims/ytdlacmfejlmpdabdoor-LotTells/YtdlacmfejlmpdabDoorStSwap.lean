/-
  What slices.swapRangeCmpFunc and slices.rotateCmpFunc do to a row of elements of k cells: they exchange two parts; over any program that holds these two bodies.
-/
import Derived.Test.YtdlacmfejlmpdabDoorProg
import Derived.Test.YtdlacmfejlmpdabDoorStMath
import Derived.Shelf.SlSortCmp.KitK
import Derived.Sort.WalkB2
import Derived.Sort.WalkB12
import Derived.Deep.LoopGhost
namespace Go.Proofs.YtdlacmfejlmpdabDoor
open Go.Shelf Go.RowKit Go.Lib Go.Sort
variable {P : Program} {k : Nat} {α : Type} [Inhabited α]

/-- What the walks ask of the program: three bodies, the types that they name; an element has k cells. -/
structure St (P : Program) (k : Nat) : Prop where
  mixed : P.follows .mixedOrders = true
  fS : P.funcs[71]? = some Tryd.f71
  fR : P.funcs[61]? = some Tryd.f61
  fM : P.funcs[51]? = some Tryd.f51
  t0 : P.underlying 0 = some (TypeDesc.tuple #[])
  a0 : ∀ w, (isAgg 0).run P w = .ok false w
  z0 : ∀ w, (Go.sizeOf 0).run P w = .ok 1 w
  v0 : ∀ w, (zeroValue 0).run P w = .ok (Value.tuple #[]) w
  t3 : P.underlying 3 = some (TypeDesc.int IntKind.i64)
  a3 : ∀ w, (isAgg 3).run P w = .ok false w
  z3 : ∀ w, (Go.sizeOf 3).run P w = .ok 1 w
  v3 : ∀ w, (zeroValue 3).run P w = .ok (Value.int IntKind.i64 0) w
  t4 : P.underlying 4 = some (TypeDesc.bool)
  a4 : ∀ w, (isAgg 4).run P w = .ok false w
  z4 : ∀ w, (Go.sizeOf 4).run P w = .ok 1 w
  v4 : ∀ w, (zeroValue 4).run P w = .ok (Value.bool false) w
  tU : P.underlying 110 = some (TypeDesc.int IntKind.u64)
  aU : ∀ w, (isAgg 110).run P w = .ok false w
  zU : ∀ w, (Go.sizeOf 110).run P w = .ok 1 w
  vU : ∀ w, (zeroValue 110).run P w = .ok (Value.int IntKind.u64 0) w
  tL : P.underlying 40 = some (TypeDesc.slice 23)
  aL : ∀ w, (isAgg 40).run P w = .ok false w
  zL : ∀ w, (Go.sizeOf 40).run P w = .ok 1 w
  vL : ∀ w, (zeroValue 40).run P w = .ok (Value.slice none 0 0) w
  tF : P.underlying 50 = some (TypeDesc.func #[23, 23] #[3] false)
  aF : ∀ w, (isAgg 50).run P w = .ok false w
  zF : ∀ w, (Go.sizeOf 50).run P w = .ok 1 w
  vF : ∀ w, (zeroValue 50).run P w = .ok Value.nilFunc w
  aE : ∀ w, (isAgg 23).run P w = .ok true w
  zE : ∀ w, (Go.sizeOf 23).run P w = .ok k w

set_option maxHeartbeats 4000000 in
set_option maxRecDepth 1000000 in
/-- slices.swapRangeCmpFunc. -/
theorem swapRange_any (X : St P k) (enc : α → List Value) (fv : Value) (blk off cap a b n : Nat) (d0 d : Array α) (w0 w : World)
    (R : RowK enc k w0 blk off d0) (hs : d0.size = d.size) (S : SWK enc k w0 blk off d w) (hab : a + n ≤ b) (hb : b + n ≤ d.size) (hsz : d.size < 4611686018427387904) :
    Calls P 71 #[.slice (some ⟨blk, off, none⟩) d.size cap, .int .i64 a, .int .i64 b, .int .i64 n, fv] w fun e w' => e = .returned (.tuple #[]) ∧ ∃ d', Exch d d' a b n ∧ PermIn a (b + n) d d' ∧ SWK enc k w0 blk off d' w' := by
  have mixed := X.mixed; have t0 := X.t0; have a0 := X.a0; have z0 := X.z0; have v0 := X.v0; have t3 := X.t3; have a3 := X.a3; have z3 := X.z3; have v3 := X.v3; have t4 := X.t4; have a4 := X.a4; have z4 := X.z4; have v4 := X.v4; have tL := X.tL; have aL := X.aL; have zL := X.zL; have vL := X.vL; have tF := X.tF; have aF := X.aF; have zF := X.zF; have vF := X.vF; have aE := X.aE; have zE := X.zE
  have S0 : Aside (SWK enc k w0 blk off d w) := S
  clear S
  go_enter X.fS, Tryd.ntmps71
  go_wp2
  go_loopg [10] n (fun kx s10 wr => ∃ (i : Nat) (dk : Array α), s10 = .int .i64 i ∧ i ≤ n ∧ n - i ≤ kx ∧ dk.size = d.size ∧ Hid (Exch d dk a b i) ∧ Hid (PermIn a (b + n) d dk) ∧ Aside (SWK enc k w0 blk off dk wr))
  case atStart => exact ⟨0, d, rfl, by omega, by omega, rfl, Exch.zero d a b, permIn_refl d a (b + n), S0⟩
  case round =>
    clear S0
    obtain ⟨i, dk, rfl, hin, hkx, hds, HX, HP, S1⟩ := hrel
    by_cases hlt : i < n
    · have hltz : (i : Int) < (n : Int) := by omega
      have NX : Hid (Exch d (swp dk (a + i) (b + i)) a b (i + 1)) := HX.out.succ (by omega) (by omega)
      have NP : Hid (PermIn a (b + n) d (swp dk (a + i) (b + i))) := perm_exch_step HP.out (by omega) (by omega) (by omega) (by omega) (by omega)
      clear HX HP
      go_wp2_with fail
      have ea44 : ((a : Int) + (i : Int)).toNat = a + i := by omega
      have pa44 : (0 : Int) ≤ (a : Int) + (i : Int) := by omega
      have ba44 : (a : Int) + (i : Int) < (d.size : Int) := by omega
      have ra44 : IntKind.i64.wrap ((a : Int) + (i : Int)) = (a : Int) + (i : Int) := by rw [IntKind.wrap_i64]; omega
      have ec44 : ((b : Int) + (i : Int)).toNat = b + i := by omega
      have pc44 : (0 : Int) ≤ (b : Int) + (i : Int) := by omega
      have bc44 : (b : Int) + (i : Int) < (d.size : Int) := by omega
      have rc44 : IntKind.i64.wrap ((b : Int) + (i : Int)) = (b : Int) + (i : Int) := by rw [IntKind.wrap_i64]; omega
      have S2 : Aside (SWK enc k w0 blk off (swp dk (a + i) (b + i)) ((wr.drew.setCells blk (off + (a + i) * k) (enc dk[b + i]!)).setCells blk (off + (b + i) * k) (enc dk[a + i]!))) := S1.out.swapped R (a + i) (b + i) (by omega) (by omega)
      have l44a := S1.out.ld1 R (by omega) P (a + i) (by omega)
      have l44b := S1.out.ld1 R (by omega) P (b + i) (by omega)
      have s44a := S1.out.st1 R (by omega) P (a + i) (by omega) dk[b + i]!
      have s44b := S1.out.st2 R (by omega) P (a + i) (b + i) (by omega) (by omega) dk[b + i]! dk[a + i]!
      have n44a : (enc dk[a + i]!).length = k := R.hk _
      have n44b : (enc dk[b + i]!).length = k := R.hk _
      generalize enc dk[a + i]! = cI44 at S2 l44a s44b n44a
      generalize enc dk[b + i]! = cJ44 at S2 l44b s44a s44b n44b
      clear S1
      go_wp2_with fail
      go_big_region_o
      clear l44a l44b s44a s44b
      generalize (wr.drew.setCells blk (off + (a + i) * k) cJ44).setCells blk (off + (b + i) * k) cI44 = w2 at S2 ⊢
      go_wp2
      go_roundg (n - (i + 1))
      case measure => omega
      case rel => exact ⟨i + 1, swp dk (a + i) (b + i), by go_num, by omega, Nat.le_refl _, by rw [size_swp]; exact hds, NX, NP, S2⟩
    · have hin' : i = n := by omega
      have hnot : ¬ (i : Int) < (n : Int) := by omega
      go_wp2
      go_end0
      refine ⟨rfl, dk, ?_, HP.out, S1.out⟩
      rw [← hin']; exact HX.out

set_option maxHeartbeats 4000000 in
set_option maxRecDepth 1000000 in
/-- slices.rotateCmpFunc. -/
theorem rotate_any (X : St P k) (enc : α → List Value) (fv : Value) (blk off cap a m b : Nat) (d0 d : Array α) (w0 w : World)
    (R : RowK enc k w0 blk off d0) (hs : d0.size = d.size) (S : SWK enc k w0 blk off d w) (ham : a < m) (hmb : m < b) (hb : b ≤ d.size) (hsz : d.size < 4611686018427387904) :
    Calls P 61 #[.slice (some ⟨blk, off, none⟩) d.size cap, .int .i64 a, .int .i64 m, .int .i64 b, fv] w fun e w' => e = .returned (.tuple #[]) ∧ ∃ d', Rot d d' a m b ∧ PermIn a b d d' ∧ SWK enc k w0 blk off d' w' := by
  have mixed := X.mixed; have t0 := X.t0; have a0 := X.a0; have z0 := X.z0; have v0 := X.v0; have t3 := X.t3; have a3 := X.a3; have z3 := X.z3; have v3 := X.v3; have t4 := X.t4; have a4 := X.a4; have z4 := X.z4; have v4 := X.v4; have tL := X.tL; have aL := X.aL; have zL := X.zL; have vL := X.vL; have tF := X.tF; have aF := X.aF; have zF := X.zF; have vF := X.vF; have aE := X.aE; have zE := X.zE
  have eS : ∀ args w, (callFunc 71 args).run P w = .ok (.enter 71 args) w := enters_of X.fS (by kernel_rfl) rfl
  have S0 : Aside (SWK enc k w0 blk off d w) := S
  clear S
  go_enter X.fR, Tryd.ntmps61
  go_wp2
  go_loopg [10, 11] (b - a) (fun kx s10 s11 wr => ∃ (i j : Nat) (dk : Array α), s10 = .int .i64 i ∧ s11 = .int .i64 j ∧ 0 < i ∧ 0 < j ∧ i ≤ m - a ∧ j ≤ b - m ∧ i + j ≤ kx ∧ dk.size = d.size ∧ Hid (∀ d', Rot dk d' (m - i) m (m + j) → Rot d d' a m b) ∧ Hid (PermIn a b d dk) ∧ Aside (SWK enc k w0 blk off dk wr))
  case atStart => exact ⟨m - a, b - m, d, by go_num, by go_num, by omega, by omega, by omega, by omega, by omega, rfl, (fun d' h => by
      have e1 : m - (m - a) = a := by omega
      have e2 : m + (b - m) = b := by omega
      rw [e1, e2] at h; exact h : ∀ d', Rot d d' (m - (m - a)) m (m + (b - m)) → Rot d d' a m b), permIn_refl d a b, S0⟩
  case round =>
    clear S0
    obtain ⟨i, j, dk, rfl, rfl, hi0, hj0, him, hjm, hkx, hds, HR, HP, S1⟩ := hrel
    have hwm : (m : Int) - (i : Int) = ((m - i : Nat) : Int) := by omega
    by_cases hij : i = j
    · subst hij
      have hc := swapRange_any X enc fv blk off cap (m - i) m i d0 dk w0 wr R (by omega) S1.out (by omega) (by omega) (by omega)
      rw [hds] at hc
      have HC : Hid (Calls P _ _ _ _) := hc
      clear hc S1
      go_wp2_with (go_at_fn 71; refine HC.out.mono ?_; rintro e w1 ⟨rfl, d1, hx, hp, S2⟩)
      go_end0
      exact ⟨rfl, d1, HR.out d1 (Rot.even (by omega) hx), permIn_trans _ _ _ a b HP.out (permIn_mono _ _ (m - i) (m + i) a b (by omega) (by omega) (by omega) hp), S2⟩
    · by_cases hgt : j < i
      · have hc := swapRange_any X enc fv blk off cap (m - i) m j d0 dk w0 wr R (by omega) S1.out (by omega) (by omega) (by omega)
        rw [hds] at hc
        have HC : Hid (Calls P _ _ _ _) := hc
        clear hc S1
        have hne : ((i : Int) == (j : Int)) = false := by simp; omega
        have hgz : (j : Int) < (i : Int) := by omega
        go_wp2_with (go_at_fn 71; refine HC.out.mono ?_; rintro e w1 ⟨rfl, d1, hx, hp, S2⟩; have S3 : Aside _ := S2; clear S2; have HX : Hid _ := hx; have HQ : Hid _ := hp; clear hx hp)
        go_roundg (i - j + j)
        case measure => omega
        case rel => exact ⟨i - j, j, d1, by go_num, rfl, by omega, hj0, by omega, hjm, Nat.le_refl _, by rw [HQ.out.1]; exact hds, (fun d' h => HR.out d' (Rot.left (by omega) hj0 hgt HX.out h) : ∀ d', Rot d1 d' (m - (i - j)) m (m + j) → Rot d d' a m b), permIn_trans _ _ _ a b HP.out (permIn_mono _ _ (m - i) (m + j) a b (by omega) (by omega) (by omega) HQ.out), S3⟩
      · have hc := swapRange_any X enc fv blk off cap (m - i) (m + j - i) i d0 dk w0 wr R (by omega) S1.out (by omega) (by omega) (by omega)
        rw [hds] at hc
        have HC : Hid (Calls P _ _ _ _) := hc
        clear hc S1
        have hne : ((i : Int) == (j : Int)) = false := by simp; omega
        have hgz : ¬ (j : Int) < (i : Int) := by omega
        have hwj : (m : Int) + (j : Int) - (i : Int) = ((m + j - i : Nat) : Int) := by omega
        go_wp2_with (go_at_fn 71; refine HC.out.mono ?_; rintro e w1 ⟨rfl, d1, hx, hp, S2⟩; have S3 : Aside _ := S2; clear S2; have HX : Hid _ := hx; have HQ : Hid _ := hp; clear hx hp)
        go_roundg (i + (j - i))
        case measure => omega
        case rel => exact ⟨i, j - i, d1, rfl, by go_num, hi0, by omega, him, by omega, Nat.le_refl _, by rw [HQ.out.1]; exact hds, (fun d' h => HR.out d' (Rot.right (by omega) hi0 (by omega) HX.out h) : ∀ d', Rot d1 d' (m - i) m (m + (j - i)) → Rot d d' a m b), permIn_trans _ _ _ a b HP.out (permIn_mono _ _ (m - i) (m + j - i + i) a b (by omega) (by omega) (by omega) HQ.out), S3⟩
end Go.Proofs.YtdlacmfejlmpdabDoor
