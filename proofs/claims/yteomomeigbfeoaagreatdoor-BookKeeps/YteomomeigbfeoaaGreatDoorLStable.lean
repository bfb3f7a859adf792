/-
 What slices.SortStableFunc does to a row of at most fifty-nine lots: the same ones, none sooner than one ahead; what is sorted stays.
-/
import Derived.Test.YteomomeigbfeoaaGreatDoorStMerge
import Derived.Test.YteomomeigbfeoaaGreatDoorJz8
import Derived.Test.YteomomeigbfeoaaGreatDoorGen
set_option maxRecDepth 100000
set_option maxHeartbeats 16000000
namespace Go.Proofs.YteomomeigbfeoaaGreatDoor
open Go.Shelf Go.RowKit Go.Lib Go.Sort
theorem encL_len (x : Lo) : (encL x).length = 4 := rfl
theorem encL_one (x : Lo) : ∀ v ∈ encL x, v.oneCell' = true := by
 intro v hv; simp [encL] at hv; rcases hv with rfl | rfl | rfl | rfl <;> rfl
theorem cmpLaysL (blk off size : Nat) (w : World) : CmpLays Tryz.prog 62 #[] encL 4 cmpL blk off size w := fun _ _ _ _ x y => lcompare_any x y _
theorem stL : St Tryz.prog 4 where
 mixed := by kernel_rfl
 fS := Tryz.func221
 fR := Tryz.func208
 fM := Tryz.func183
 t0 := Tryz.underlying0
 a0 := Tryz.isAgg0
 z0 := Tryz.sizeOf0
 v0 := Tryz.zeroValue0
 t3 := Tryz.underlying3
 a3 := Tryz.isAgg3
 z3 := Tryz.sizeOf3
 v3 := Tryz.zeroValue3
 t4 := Tryz.underlying4
 a4 := Tryz.isAgg4
 z4 := Tryz.sizeOf4
 v4 := Tryz.zeroValue4
 tU := Tryz.underlying178
 aU := Tryz.isAgg178
 zU := Tryz.sizeOf178
 vU := Tryz.zeroValue178
 tL := Tryz.underlying52
 aL := Tryz.isAgg52
 zL := Tryz.sizeOf52
 vL := Tryz.zeroValue52
 tF := Tryz.underlying119
 aF := Tryz.isAgg119
 zF := Tryz.sizeOf119
 vF := Tryz.zeroValue119
 aE := Tryz.isAgg26
 zE := Tryz.sizeOf26
def Stably (n : Nat) (d d' : Array Lo) : Prop := PermIn 0 n d d' ∧ SortedIn soonL 0 n d' ∧ (SortedIn soonL 0 n d → d' = d)
theorem stably_one {n : Nat} {d : Array Lo} (hn : n ≤ d.size) : Stably n d (insertionSort soonL d 0 n) :=
 have h := insertionSort_holds swoL d 0 n (Nat.zero_le _) hn
 ⟨h.1, h.2, fun hs => insertion_id hs⟩
theorem ins_none {n : Nat} {d : Array Lo} : insertionSort soonL d n n = d := insertion_id fun i j h1 h2 h3 => by omega
theorem stably_two {n : Nat} {d d' : Array Lo} (h20 : 20 ≤ n) (hn : n ≤ d.size) (hm : Merged soonL 0 20 n (insertionSort soonL (insertionSort soonL d 0 20) 20 n) d') : Stably n d d' := by
 obtain ⟨p1, s1⟩ := insertionSort_holds swoL d 0 20 (Nat.zero_le _) (by omega)
 generalize he1 : insertionSort soonL d 0 20 = d1 at *
 have z1 : d1.size = d.size := p1.1
 obtain ⟨p2, s2⟩ := insertionSort_holds swoL d1 20 n h20 (by omega)
 generalize he2 : insertionSort soonL d1 20 n = d2 at *
 have z2 : d2.size = d.size := by rw [p2.1, z1]
 have s1' : SortedIn soonL 0 20 d2 := SortedIn.congr_in s1 fun x _ hx => p2.2.1 x (Or.inl hx)
 refine ⟨?_, hm.2.1 s1' s2, fun hs => ?_⟩
 ·exact permIn_trans _ _ _ 0 n (permIn_mono _ _ 0 20 0 n (Nat.le_refl _) h20 hn p1) (permIn_trans _ _ _ 0 n (permIn_mono _ _ 20 n 0 n (Nat.zero_le _) (Nat.le_refl _) (by omega) p2) hm.1)
 ·have e1 : d1 = d := by rw [← he1]; exact insertion_id (SortedIn.rot_lo hs (Nat.le_refl _) h20)
  have e2 : d2 = d := by rw [← he2, e1]; exact insertion_id (SortedIn.rot_lo hs (Nat.zero_le _) (Nat.le_refl _))
  rw [e2] at hm
  exact hm.2.2 hs
theorem stably_three {n : Nat} {d d4 d' : Array Lo} (h40 : 40 ≤ n) (hn : n ≤ d.size) (hm : Merged soonL 0 20 40 (insertionSort soonL (insertionSort soonL (insertionSort soonL d 0 20) 20 40) 40 n) d4) (hm' : Merged soonL 0 40 n d4 d') : Stably n d d' := by
 obtain ⟨p1, s1⟩ := insertionSort_holds swoL d 0 20 (Nat.zero_le _) (by omega)
 generalize he1 : insertionSort soonL d 0 20 = d1 at *
 have z1 : d1.size = d.size := p1.1
 obtain ⟨p2, s2⟩ := insertionSort_holds swoL d1 20 40 (by decide) (by omega)
 generalize he2 : insertionSort soonL d1 20 40 = d2 at *
 have z2 : d2.size = d.size := by rw [p2.1, z1]
 obtain ⟨p3, s3⟩ := insertionSort_holds swoL d2 40 n h40 (by omega)
 generalize he3 : insertionSort soonL d2 40 n = d3 at *
 have z3 : d3.size = d.size := by rw [p3.1, z2]
 have s1' : SortedIn soonL 0 20 d2 := SortedIn.congr_in s1 fun x _ hx => p2.2.1 x (Or.inl hx)
 have s1'' : SortedIn soonL 0 20 d3 := SortedIn.congr_in s1' fun x _ hx => p3.2.1 x (Or.inl (by omega))
 have s2' : SortedIn soonL 20 40 d3 := SortedIn.congr_in s2 fun x _ hx => p3.2.1 x (Or.inl hx)
 have s4 := hm.2.1 s1'' s2'
 have z4 : d4.size = d.size := by rw [hm.1.1, z3]
 have s3' : SortedIn soonL 40 n d4 := SortedIn.congr_in s3 fun x hx _ => hm.1.2.1 x (Or.inr hx)
 refine ⟨?_, hm'.2.1 s4 s3', fun hs => ?_⟩
 ·exact permIn_trans _ _ _ 0 n (permIn_mono _ _ 0 20 0 n (Nat.le_refl _) (by omega) hn p1) (permIn_trans _ _ _ 0 n (permIn_mono _ _ 20 40 0 n (Nat.zero_le _) h40 (by omega) p2) (permIn_trans _ _ _ 0 n (permIn_mono _ _ 40 n 0 n (Nat.zero_le _) (Nat.le_refl _) (by omega) p3) (permIn_trans _ _ _ 0 n (permIn_mono _ _ 0 40 0 n (Nat.le_refl _) h40 (by omega) hm.1) hm'.1)))
 ·have e1 : d1 = d := by rw [← he1]; exact insertion_id (SortedIn.rot_lo hs (Nat.le_refl _) (by omega))
  have e2 : d2 = d := by rw [← he2, e1]; exact insertion_id (SortedIn.rot_lo hs (Nat.zero_le _) h40)
  have e3 : d3 = d := by rw [← he3, e2]; exact insertion_id (SortedIn.rot_lo hs (Nat.zero_le _) (Nat.le_refl _))
  rw [e3] at hm
  have e4 : d4 = d := hm.2.2 (SortedIn.rot_lo hs (Nat.le_refl _) h40)
  rw [e4] at hm'
  exact hm'.2.2 hs
theorem insL (blk off cap : Nat) (d0 : Array Lo) (w0 : World) (R : RowK encL 4 w0 blk off d0) (hsz : d0.size < 1000) (a b : Nat) (d : Array Lo) (w : World) (hab : a ≤ b) (hb : b ≤ d0.size) (hZ : SZ encL 4 w0 blk off d0.size d w) :
  Calls Tryz.prog 182 #[.slice (some ⟨blk, off, none⟩) d0.size cap, .int .i64 a, .int .i64 b, .func (.func 62) #[] #[]] w fun e w' => e = .returned (.tuple #[]) ∧ SZ encL 4 w0 blk off d0.size (insertionSort soonL d a b) w' := by
 have eg : ∀ args w, (callFunc 62 args).run Tryz.prog w = .ok (.enter 62 args) w := enters_of Tryz.func62 (by kernel_rfl) rfl
 have hs := hZ.1
 have h := AnyQ.insertionSortCmpFunc Tryz.laysInsL 4 Tryz.isAgg26 Tryz.sizeOf26 encL encL_len encL_one cmpL 62 #[] blk off cap a b d w eg (cmpLaysL blk off d.size w) (hZ.2.holds R.hblk R.hH hs) (hZ.2.lt R.hblk) hab (by omega) (by omega)
 rw [hs] at h
 refine h.mono fun e w' ⟨he, n, os, hw⟩ => ⟨he, ?_⟩
 have hp : (insertionSort soonL d a b).size = d.size := (insertionSort_holds swoL d a b hab (by omega)).1.1
 refine ⟨by rw [hp]; exact hs, ?_⟩
 rw [hw]
 exact hZ.2.on R.hblk n _ os hp
theorem symL (blk off cap : Nat) (d0 : Array Lo) (w0 : World) (R : RowK encL 4 w0 blk off d0) (hsz : d0.size < 1000) (a m b : Nat) (d : Array Lo) (w : World) (ham : a < m) (hmb : m < b) (hb : b ≤ d0.size) (hZ : SZ encL 4 w0 blk off d0.size d w) :
  Calls Tryz.prog 183 #[.slice (some ⟨blk, off, none⟩) d0.size cap, .int .i64 a, .int .i64 m, .int .i64 b, .func (.func 62) #[] #[]] w fun e w' => e = .returned (.tuple #[]) ∧ ∃ d', Merged soonL a m b d d' ∧ SZ encL 4 w0 blk off d0.size d' w' := by
 have eg : ∀ args w, (callFunc 62 args).run Tryz.prog w = .ok (.enter 62 args) w := enters_of Tryz.func62 (by kernel_rfl) rfl
 exact sym_any stL encL cmpL 62 #[] swoL blk off cap d0 w0 eg (cmpLaysL blk off d0.size w0) R (by omega) (b - a + 1) a m b d w (by omega) ham hmb hb hZ
theorem stable_few (blk off cap : Nat) (d : Array Lo) (w : World) (R : RowK encL 4 w blk off d) (hn : d.size < 20) :
  Calls Tryz.prog 142 #[.slice (some ⟨blk, off, none⟩) d.size cap, .int .i64 d.size, .func (.func 62) #[] #[]] w fun e w' => e = .returned (.tuple #[]) ∧ ∃ d', Stably d.size d d' ∧ SZ encL 4 w blk off d.size d' w' := by
 have h0 : Calls Tryz.prog 182 #[.slice (some ⟨blk, off, none⟩) d.size cap, .int .i64 0, .int .i64 d.size, .func (.func 62) #[] #[]] w _ := insL blk off cap d w R (by omega) 0 d.size d w (Nat.zero_le _) (Nat.le_refl _) ⟨rfl, SWK.start R.hH⟩
 have HS : Hid (Stably d.size d (insertionSort soonL d 0 d.size)) := stably_one (Nat.le_refl _)
 have H0 : Hid (Calls Tryz.prog _ _ _ _) := h0
 clear h0 R
 generalize insertionSort soonL d 0 d.size = d1 at *
 generalize d.size = n at *
 go_enter Tryz.func142, Tryz.ntmps142
 go_wp2
 refine wp_loop_rounds 1 ?_
 rw [rounds_succ]
 go_wp2_with (go_at_call 182; refine H0.out.mono ?_; rintro e w1 ⟨rfl, Z1⟩)
 refine wp_loop_rounds 1 ?_
 rw [rounds_succ]
 go_wp2
 go_end0
 exact ⟨rfl, d1, HS.out, Z1⟩
theorem stable_twenty (blk off cap : Nat) (d : Array Lo) (w : World) (R : RowK encL 4 w blk off d) (hn : d.size = 20) :
  Calls Tryz.prog 142 #[.slice (some ⟨blk, off, none⟩) 20 cap, .int .i64 20, .func (.func 62) #[] #[]] w fun e w' => e = .returned (.tuple #[]) ∧ ∃ d', Stably 20 d d' ∧ SZ encL 4 w blk off 20 d' w' := by
 have i1 := fun a b d1 w1 h1 h2 => insL blk off cap d w R (by omega) a b d1 w1 h1 h2
 rw [hn] at i1
 have h0 : Calls Tryz.prog 182 #[.slice (some ⟨blk, off, none⟩) 20 cap, .int .i64 0, .int .i64 20, .func (.func 62) #[] #[]] w _ := i1 0 20 d w (by decide) (by decide) ⟨hn, SWK.start R.hH⟩
 have h1 : ∀ d1 w1, SZ encL 4 w blk off 20 d1 w1 → Calls Tryz.prog 182 #[.slice (some ⟨blk, off, none⟩) 20 cap, .int .i64 20, .int .i64 20, .func (.func 62) #[] #[]] w1 _ := fun d1 w1 h => i1 20 20 d1 w1 (by decide) (by decide) h
 have HS : Hid (Stably 20 d (insertionSort soonL d 0 20)) := stably_one (by omega)
 have H0 : Hid (Calls Tryz.prog _ _ _ _) := h0
 have H1 : Aside _ := h1
 clear h0 h1 i1 R
 generalize insertionSort soonL d 0 20 = d1 at *
 go_enter Tryz.func142, Tryz.ntmps142
 go_wp2
 refine wp_loop_rounds 2 ?_
 rw [rounds_succ]
 go_wp2_with (go_at_call_of 182 (Value.int .i64 0); refine H0.out.mono ?_; rintro e w1 ⟨rfl, Z1⟩)
 rw [rounds_succ]
 go_wp2_with (go_at_call 182; refine (H1.out _ _ Z1).mono ?_; rintro e w2 ⟨rfl, Z2⟩)
 refine wp_loop_rounds 1 ?_
 rw [rounds_succ]
 go_wp2
 go_end0
 rw [ins_none] at Z2
 exact ⟨rfl, d1, HS.out, Z2⟩
theorem stable_more (blk off cap : Nat) (d : Array Lo) (w : World) (R : RowK encL 4 w blk off d) (hn : 20 < d.size) (hn' : d.size < 40) :
  Calls Tryz.prog 142 #[.slice (some ⟨blk, off, none⟩) d.size cap, .int .i64 d.size, .func (.func 62) #[] #[]] w fun e w' => e = .returned (.tuple #[]) ∧ ∃ d', Stably d.size d d' ∧ SZ encL 4 w blk off d.size d' w' := by
 have h0 : Calls Tryz.prog 182 #[.slice (some ⟨blk, off, none⟩) d.size cap, .int .i64 0, .int .i64 20, .func (.func 62) #[] #[]] w _ := insL blk off cap d w R (by omega) 0 20 d w (by decide) (by omega) ⟨rfl, SWK.start R.hH⟩
 have h1 : ∀ d1 w1, SZ encL 4 w blk off d.size d1 w1 → Calls Tryz.prog 182 #[.slice (some ⟨blk, off, none⟩) d.size cap, .int .i64 20, .int .i64 d.size, .func (.func 62) #[] #[]] w1 _ := fun d1 w1 h => insL blk off cap d w R (by omega) 20 d.size d1 w1 (by omega) (Nat.le_refl _) h
 have h2 : ∀ d1 w1, SZ encL 4 w blk off d.size d1 w1 → Calls Tryz.prog 183 #[.slice (some ⟨blk, off, none⟩) d.size cap, .int .i64 0, .int .i64 20, .int .i64 d.size, .func (.func 62) #[] #[]] w1 _ := fun d1 w1 h => symL blk off cap d w R (by omega) 0 20 d.size d1 w1 (by decide) hn (Nat.le_refl _) h
 have HS : Hid (∀ d', Merged soonL 0 20 d.size (insertionSort soonL (insertionSort soonL d 0 20) 20 d.size) d' → Stably d.size d d') := fun d' h => stably_two (by omega) (Nat.le_refl _) h
 have H0 : Hid (Calls Tryz.prog _ _ _ _) := h0
 have H1 : Aside _ := h1
 have H2 : Aside _ := h2
 clear h0 h1 h2 R
 generalize insertionSort soonL d 0 20 = d1 at *
 generalize d.size = n at *
 go_enter Tryz.func142, Tryz.ntmps142
 go_wp2
 refine wp_loop_rounds 2 ?_
 rw [rounds_succ]
 go_wp2_with (go_at_call_of 182 (Value.int .i64 0); refine H0.out.mono ?_; rintro e w1 ⟨rfl, Z1⟩)
 rw [rounds_succ]
 go_wp2_with (go_at_call 182; refine (H1.out _ _ Z1).mono ?_; rintro e w2 ⟨rfl, Z2⟩)
 refine wp_loop_rounds 2 ?_
 rw [rounds_succ]
 go_wp2
 refine wp_loop_rounds 1 ?_
 rw [rounds_succ]
 go_wp2_with (go_at_call 183; refine (H2.out _ _ Z2).mono ?_; rintro e w3 ⟨rfl, d3, hm3, Z3⟩)
 rw [rounds_succ]
 go_wp2
 go_end0
 exact ⟨rfl, d3, HS.out d3 hm3, Z3⟩
theorem stable_forty (blk off cap : Nat) (d : Array Lo) (w : World) (R : RowK encL 4 w blk off d) (hn : d.size = 40) :
  Calls Tryz.prog 142 #[.slice (some ⟨blk, off, none⟩) 40 cap, .int .i64 40, .func (.func 62) #[] #[]] w fun e w' => e = .returned (.tuple #[]) ∧ ∃ d', Stably 40 d d' ∧ SZ encL 4 w blk off 40 d' w' := by
 have i1 := fun a b d1 w1 h1 h2 => insL blk off cap d w R (by omega) a b d1 w1 h1 h2
 have i2 := fun a m b d1 w1 h1 h2 h3 => symL blk off cap d w R (by omega) a m b d1 w1 h1 h2 h3
 rw [hn] at i1 i2
 have h0 : Calls Tryz.prog 182 #[.slice (some ⟨blk, off, none⟩) 40 cap, .int .i64 0, .int .i64 20, .func (.func 62) #[] #[]] w _ := i1 0 20 d w (by decide) (by decide) ⟨hn, SWK.start R.hH⟩
 have h1 : ∀ d1 w1, SZ encL 4 w blk off 40 d1 w1 → Calls Tryz.prog 182 #[.slice (some ⟨blk, off, none⟩) 40 cap, .int .i64 20, .int .i64 40, .func (.func 62) #[] #[]] w1 _ := fun d1 w1 h => i1 20 40 d1 w1 (by decide) (by decide) h
 have h3 : ∀ d1 w1, SZ encL 4 w blk off 40 d1 w1 → Calls Tryz.prog 182 #[.slice (some ⟨blk, off, none⟩) 40 cap, .int .i64 40, .int .i64 40, .func (.func 62) #[] #[]] w1 _ := fun d1 w1 h => i1 40 40 d1 w1 (by decide) (by decide) h
 have h2 : ∀ d1 w1, SZ encL 4 w blk off 40 d1 w1 → Calls Tryz.prog 183 #[.slice (some ⟨blk, off, none⟩) 40 cap, .int .i64 0, .int .i64 20, .int .i64 40, .func (.func 62) #[] #[]] w1 _ := fun d1 w1 h => i2 0 20 40 d1 w1 (by decide) (by decide) (by decide) h
 have HS : Hid (∀ d', Merged soonL 0 20 40 (insertionSort soonL (insertionSort soonL d 0 20) 20 40) d' → Stably 40 d d') := fun d' h => stably_two (by omega) (by omega) h
 have H0 : Hid (Calls Tryz.prog _ _ _ _) := h0
 have H1 : Aside _ := h1
 have H2 : Aside _ := h2
 have H3 : Aside _ := h3
 clear h0 h1 h2 h3 i1 i2 R
 generalize insertionSort soonL d 0 20 = d1 at *
 go_enter Tryz.func142, Tryz.ntmps142
 go_wp2
 refine wp_loop_rounds 3 ?_
 rw [rounds_succ]
 go_wp2_with (go_at_call_of 182 (Value.int .i64 0); refine H0.out.mono ?_; rintro e w1 ⟨rfl, Z1⟩)
 rw [rounds_succ]
 go_wp2_with (go_at_call 182; refine (H1.out _ _ Z1).mono ?_; rintro e w2 ⟨rfl, Z2⟩)
 rw [rounds_succ]
 go_wp2_with (go_at_call 182; refine (H3.out _ _ Z2).mono ?_; rintro e w3 ⟨rfl, Z3⟩)
 refine wp_loop_rounds 2 ?_
 rw [rounds_succ]
 go_wp2
 refine wp_loop_rounds 2 ?_
 rw [rounds_succ]
 rw [ins_none] at Z3
 go_wp2_with (go_at_call 183; refine (H2.out _ _ Z3).mono ?_; rintro e w4 ⟨rfl, d4, hm4, Z4⟩)
 rw [rounds_succ]
 go_wp2
 rw [rounds_succ]
 go_wp2
 go_end0
 exact ⟨rfl, d4, HS.out d4 hm4, Z4⟩
theorem stable_fifty (blk off cap : Nat) (d : Array Lo) (w : World) (R : RowK encL 4 w blk off d) (hn : 40 < d.size) (hn' : d.size < 60) :
  Calls Tryz.prog 142 #[.slice (some ⟨blk, off, none⟩) d.size cap, .int .i64 d.size, .func (.func 62) #[] #[]] w fun e w' => e = .returned (.tuple #[]) ∧ ∃ d', Stably d.size d d' ∧ SZ encL 4 w blk off d.size d' w' := by
 have h0 : Calls Tryz.prog 182 #[.slice (some ⟨blk, off, none⟩) d.size cap, .int .i64 0, .int .i64 20, .func (.func 62) #[] #[]] w _ := insL blk off cap d w R (by omega) 0 20 d w (by decide) (by omega) ⟨rfl, SWK.start R.hH⟩
 have h1 : ∀ d1 w1, SZ encL 4 w blk off d.size d1 w1 → Calls Tryz.prog 182 #[.slice (some ⟨blk, off, none⟩) d.size cap, .int .i64 20, .int .i64 40, .func (.func 62) #[] #[]] w1 _ := fun d1 w1 h => insL blk off cap d w R (by omega) 20 40 d1 w1 (by decide) (by omega) h
 have h3 : ∀ d1 w1, SZ encL 4 w blk off d.size d1 w1 → Calls Tryz.prog 182 #[.slice (some ⟨blk, off, none⟩) d.size cap, .int .i64 40, .int .i64 d.size, .func (.func 62) #[] #[]] w1 _ := fun d1 w1 h => insL blk off cap d w R (by omega) 40 d.size d1 w1 (by omega) (Nat.le_refl _) h
 have h2 : ∀ d1 w1, SZ encL 4 w blk off d.size d1 w1 → Calls Tryz.prog 183 #[.slice (some ⟨blk, off, none⟩) d.size cap, .int .i64 0, .int .i64 20, .int .i64 40, .func (.func 62) #[] #[]] w1 _ := fun d1 w1 h => symL blk off cap d w R (by omega) 0 20 40 d1 w1 (by decide) (by decide) (by omega) h
 have h4 : ∀ d1 w1, SZ encL 4 w blk off d.size d1 w1 → Calls Tryz.prog 183 #[.slice (some ⟨blk, off, none⟩) d.size cap, .int .i64 0, .int .i64 40, .int .i64 d.size, .func (.func 62) #[] #[]] w1 _ := fun d1 w1 h => symL blk off cap d w R (by omega) 0 40 d.size d1 w1 (by decide) hn (Nat.le_refl _) h
 have HS : Hid (∀ d4 d', Merged soonL 0 20 40 (insertionSort soonL (insertionSort soonL (insertionSort soonL d 0 20) 20 40) 40 d.size) d4 → Merged soonL 0 40 d.size d4 d' → Stably d.size d d') := fun d4 d' h h' => stably_three (by omega) (Nat.le_refl _) h h'
 have H0 : Hid (Calls Tryz.prog _ _ _ _) := h0
 have H1 : Aside _ := h1
 have H2 : Aside _ := h2
 have H3 : Aside _ := h3
 have H4 : Aside _ := h4
 clear h0 h1 h2 h3 h4 R
 generalize insertionSort soonL d 0 20 = d1 at *
 generalize d.size = n at *
 go_enter Tryz.func142, Tryz.ntmps142
 go_wp2
 refine wp_loop_rounds 3 ?_
 rw [rounds_succ]
 go_wp2_with (go_at_call_of 182 (Value.int .i64 0); refine H0.out.mono ?_; rintro e w1 ⟨rfl, Z1⟩)
 rw [rounds_succ]
 go_wp2_with (go_at_call 182; refine (H1.out _ _ Z1).mono ?_; rintro e w2 ⟨rfl, Z2⟩)
 rw [rounds_succ]
 go_wp2_with (go_at_call 182; refine (H3.out _ _ Z2).mono ?_; rintro e w3 ⟨rfl, Z3⟩)
 refine wp_loop_rounds 3 ?_
 rw [rounds_succ]
 go_wp2
 refine wp_loop_rounds 2 ?_
 rw [rounds_succ]
 go_wp2_with (go_at_call 183; refine (H2.out _ _ Z3).mono ?_; rintro e w4 ⟨rfl, d4, hm4, Z4⟩)
 rw [rounds_succ]
 go_wp2
 rw [rounds_succ]
 go_wp2
 refine wp_loop_rounds 1 ?_
 rw [rounds_succ]
 go_wp2_with (go_at_call 183; refine (H4.out _ _ Z4).mono ?_; rintro e w5 ⟨rfl, d5, hm5, Z5⟩)
 rw [rounds_succ]
 go_wp2
 go_end0
 exact ⟨rfl, d5, HS.out d4 d5 hm4 hm5, Z5⟩
theorem sortStable_any (blk off cap : Nat) (d : Array Lo) (w : World) (hH : HoldsK encL 4 w blk off d) (hblk : blk < w.heap.size) (hn : d.size ≤ 59) :
  Calls Tryz.prog 100 #[.slice (some ⟨blk, off, none⟩) d.size cap, .func (.func 62) #[] #[]] w fun e w' => e = .returned (.tuple #[]) ∧ ∃ d', Stably d.size d d' ∧ SZ encL 4 w blk off d.size d' w' := by
 have R : RowK encL 4 w blk off d := ⟨encL_len, encL_one, hH, hblk⟩
 have hs : Calls Tryz.prog 142 #[.slice (some ⟨blk, off, none⟩) d.size cap, .int .i64 d.size, .func (.func 62) #[] #[]] w fun e w' => e = .returned (.tuple #[]) ∧ ∃ d', Stably d.size d d' ∧ SZ encL 4 w blk off d.size d' w' := by
  rcases Nat.lt_trichotomy d.size 20 with h | h | h
  ·exact stable_few blk off cap d w R h
  ·have := stable_twenty blk off cap d w R h
   rw [h]; exact this
  ·by_cases h' : d.size < 40
   ·exact stable_more blk off cap d w R h h'
   ·by_cases h4 : d.size = 40
    ·have := stable_forty blk off cap d w R h4
     rw [h4]; exact this
    ·exact stable_fifty blk off cap d w R (by omega) (by omega)
 have HS : Hid (Calls Tryz.prog _ _ _ _) := hs
 clear hs R hH hblk
 go_enter Tryz.func100, Tryz.ntmps100
 go_wp2_with (go_at_call 142; refine HS.out.mono ?_; rintro e w1 ⟨rfl, d1, h1, Z1⟩)
 go_end0
 exact ⟨rfl, d1, h1, Z1⟩
end Go.Proofs.YteomomeigbfeoaaGreatDoor
