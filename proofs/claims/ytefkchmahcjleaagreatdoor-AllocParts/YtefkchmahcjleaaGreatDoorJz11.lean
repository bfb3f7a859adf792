/-
 What strings.SplitN at a blank and four words, and lot.parts answer, over whatever world; condition: the text is no longer than a string may be.
-/
import Derived.Test.YtefkchmahcjleaaGreatDoorJz8
import Derived.Test.YtefkchmahcjleaaGreatDoorGen2
import Derived.Deep.RegionHeld3
import Derived.Lib.SplitLaws
import Derived.Test.YtefkchmahcjleaaGreatDoorJz10
import Derived.Test.YtefkchmahcjleaaGreatDoorGen
import Derived.Laws.StructEq
import Derived.Laws.AppendOwnNone
import Derived.Deep.AppendLies
import Derived.OwnWalk
import Derived.WalkKit
set_option maxRecDepth 100000
set_option maxHeartbeats 16000000
namespace Go.Proofs.YtefkchmahcjleaaGreatDoor
open Go.RowKit Go.Lib Go.Sort
def three (l : List UInt8) : Bool := has 32 l && (has 32 (cutB 32 l) && has 32 (cutB 32 (cutB 32 l)))
def zeroL : Lo := (⟨#[]⟩, ⟨#[]⟩, 0, 0)
end Go.Proofs.YtefkchmahcjleaaGreatDoor
namespace Go.Proofs.YtefkchmahcjleaaGreatDoor
open Go.Shelf Go.RowKit Go.Lib Go.Sort
theorem encL_len (x : Lo) : (encL x).length = 4 := rfl
theorem encL_one (x : Lo) : ∀ v ∈ encL x, v.oneCell' = true := by
 intro v hv; simp [encL] at hv; rcases hv with rfl | rfl | rfl | rfl <;> rfl
theorem cmpLaysL (blk off size : Nat) (w : World) : CmpLays Tryz.prog 130 #[] encL 4 cmpL blk off size w := fun _ _ _ _ x y => lcompare_any x y _
theorem stL : St Tryz.prog 4 where
 mixed := by kernel_rfl
 fS := Tryz.func178
 fR := Tryz.func177
 fM := Tryz.func173
 t0 := Tryz.underlying0
 a0 := Tryz.isAgg0
 z0 := Tryz.sizeOf0
 v0 := Tryz.zeroValue0
 t3 := Tryz.underlying3
 a3 := Tryz.isAgg3
 z3 := Tryz.sizeOf3
 v3 := Tryz.zeroValue3
 t4 := Tryz.underlying4
 a4 := Tryz.isAgg4
 z4 := Tryz.sizeOf4
 v4 := Tryz.zeroValue4
 tU := Tryz.underlying185
 aU := Tryz.isAgg185
 zU := Tryz.sizeOf185
 vU := Tryz.zeroValue185
 tL := Tryz.underlying142
 aL := Tryz.isAgg142
 zL := Tryz.sizeOf142
 vL := Tryz.zeroValue142
 tF := Tryz.underlying207
 aF := Tryz.isAgg207
 zF := Tryz.sizeOf207
 vF := Tryz.zeroValue207
 aE := Tryz.isAgg40
 zE := Tryz.sizeOf40
def Stably (n : Nat) (d d' : Array Lo) : Prop := PermIn 0 n d d' ∧ SortedIn soonL 0 n d' ∧ (SortedIn soonL 0 n d → d' = d)
theorem stably_one {n : Nat} {d : Array Lo} (hn : n ≤ d.size) : Stably n d (insertionSort soonL d 0 n) :=
 have h := insertionSort_holds swoL d 0 n (Nat.zero_le _) hn
 ⟨h.1, h.2, fun hs => insertion_id hs⟩
theorem ins_none {n : Nat} {d : Array Lo} : insertionSort soonL d n n = d := insertion_id fun i j h1 h2 h3 => by omega
theorem stably_two {n : Nat} {d d' : Array Lo} (h20 : 20 ≤ n) (hn : n ≤ d.size) (hm : Merged soonL 0 20 n (insertionSort soonL (insertionSort soonL d 0 20) 20 n) d') : Stably n d d' := by
 obtain ⟨p1, s1⟩ := insertionSort_holds swoL d 0 20 (Nat.zero_le _) (by omega)
 generalize he1 : insertionSort soonL d 0 20 = d1 at *
 have z1 : d1.size = d.size := p1.1
 obtain ⟨p2, s2⟩ := insertionSort_holds swoL d1 20 n h20 (by omega)
 generalize he2 : insertionSort soonL d1 20 n = d2 at *
 have z2 : d2.size = d.size := by rw [p2.1, z1]
 have s1' : SortedIn soonL 0 20 d2 := SortedIn.congr_in s1 fun x _ hx => p2.2.1 x (Or.inl hx)
 refine ⟨?_, hm.2.1 s1' s2, fun hs => ?_⟩
 ·exact permIn_trans _ _ _ 0 n (permIn_mono _ _ 0 20 0 n (Nat.le_refl _) h20 hn p1) (permIn_trans _ _ _ 0 n (permIn_mono _ _ 20 n 0 n (Nat.zero_le _) (Nat.le_refl _) (by omega) p2) hm.1)
 ·have e1 : d1 = d := by rw [← he1]; exact insertion_id (SortedIn.rot_lo hs (Nat.le_refl _) h20)
  have e2 : d2 = d := by rw [← he2, e1]; exact insertion_id (SortedIn.rot_lo hs (Nat.zero_le _) (Nat.le_refl _))
  rw [e2] at hm
  exact hm.2.2 hs
theorem stably_three {n : Nat} {d d4 d' : Array Lo} (h40 : 40 ≤ n) (hn : n ≤ d.size) (hm : Merged soonL 0 20 40 (insertionSort soonL (insertionSort soonL (insertionSort soonL d 0 20) 20 40) 40 n) d4) (hm' : Merged soonL 0 40 n d4 d') : Stably n d d' := by
 obtain ⟨p1, s1⟩ := insertionSort_holds swoL d 0 20 (Nat.zero_le _) (by omega)
 generalize he1 : insertionSort soonL d 0 20 = d1 at *
 have z1 : d1.size = d.size := p1.1
 obtain ⟨p2, s2⟩ := insertionSort_holds swoL d1 20 40 (by decide) (by omega)
 generalize he2 : insertionSort soonL d1 20 40 = d2 at *
 have z2 : d2.size = d.size := by rw [p2.1, z1]
 obtain ⟨p3, s3⟩ := insertionSort_holds swoL d2 40 n h40 (by omega)
 generalize he3 : insertionSort soonL d2 40 n = d3 at *
 have z3 : d3.size = d.size := by rw [p3.1, z2]
 have s1' : SortedIn soonL 0 20 d2 := SortedIn.congr_in s1 fun x _ hx => p2.2.1 x (Or.inl hx)
 have s1'' : SortedIn soonL 0 20 d3 := SortedIn.congr_in s1' fun x _ hx => p3.2.1 x (Or.inl (by omega))
 have s2' : SortedIn soonL 20 40 d3 := SortedIn.congr_in s2 fun x _ hx => p3.2.1 x (Or.inl hx)
 have s4 := hm.2.1 s1'' s2'
 have z4 : d4.size = d.size := by rw [hm.1.1, z3]
 have s3' : SortedIn soonL 40 n d4 := SortedIn.congr_in s3 fun x hx _ => hm.1.2.1 x (Or.inr hx)
 refine ⟨?_, hm'.2.1 s4 s3', fun hs => ?_⟩
 ·exact permIn_trans _ _ _ 0 n (permIn_mono _ _ 0 20 0 n (Nat.le_refl _) (by omega) hn p1) (permIn_trans _ _ _ 0 n (permIn_mono _ _ 20 40 0 n (Nat.zero_le _) h40 (by omega) p2) (permIn_trans _ _ _ 0 n (permIn_mono _ _ 40 n 0 n (Nat.zero_le _) (Nat.le_refl _) (by omega) p3) (permIn_trans _ _ _ 0 n (permIn_mono _ _ 0 40 0 n (Nat.le_refl _) h40 (by omega) hm.1) hm'.1)))
 ·have e1 : d1 = d := by rw [← he1]; exact insertion_id (SortedIn.rot_lo hs (Nat.le_refl _) (by omega))
  have e2 : d2 = d := by rw [← he2, e1]; exact insertion_id (SortedIn.rot_lo hs (Nat.zero_le _) h40)
  have e3 : d3 = d := by rw [← he3, e2]; exact insertion_id (SortedIn.rot_lo hs (Nat.zero_le _) (Nat.le_refl _))
  rw [e3] at hm
  have e4 : d4 = d := hm.2.2 (SortedIn.rot_lo hs (Nat.le_refl _) h40)
  rw [e4] at hm'
  exact hm'.2.2 hs
theorem insL (blk off cap : Nat) (d0 : Array Lo) (w0 : World) (R : RowK encL 4 w0 blk off d0) (hsz : d0.size < 1000) (a b : Nat) (d : Array Lo) (w : World) (hab : a ≤ b) (hb : b ≤ d0.size) (hZ : SZ encL 4 w0 blk off d0.size d w) :
  Calls Tryz.prog 172 #[.slice (some ⟨blk, off, none⟩) d0.size cap, .int .i64 a, .int .i64 b, .func (.func 130) #[] #[]] w fun e w' => e = .returned (.tuple #[]) ∧ SZ encL 4 w0 blk off d0.size (insertionSort soonL d a b) w' := by
 have eg : ∀ args w, (callFunc 130 args).run Tryz.prog w = .ok (.enter 130 args) w := enters_of Tryz.func130 (by kernel_rfl) rfl
 have hs := hZ.1
 have h := AnyQ.insertionSortCmpFunc Tryz.laysInsL 4 Tryz.isAgg40 Tryz.sizeOf40 encL encL_len encL_one cmpL 130 #[] blk off cap a b d w eg (cmpLaysL blk off d.size w) (hZ.2.holds R.hblk R.hH hs) (hZ.2.lt R.hblk) hab (by omega) (by omega)
 rw [hs] at h
 refine h.mono fun e w' ⟨he, n, os, hw⟩ => ⟨he, ?_⟩
 have hp : (insertionSort soonL d a b).size = d.size := (insertionSort_holds swoL d a b hab (by omega)).1.1
 refine ⟨by rw [hp]; exact hs, ?_⟩
 rw [hw]
 exact hZ.2.on R.hblk n _ os hp
theorem symL (blk off cap : Nat) (d0 : Array Lo) (w0 : World) (R : RowK encL 4 w0 blk off d0) (hsz : d0.size < 1000) (a m b : Nat) (d : Array Lo) (w : World) (ham : a < m) (hmb : m < b) (hb : b ≤ d0.size) (hZ : SZ encL 4 w0 blk off d0.size d w) :
  Calls Tryz.prog 173 #[.slice (some ⟨blk, off, none⟩) d0.size cap, .int .i64 a, .int .i64 m, .int .i64 b, .func (.func 130) #[] #[]] w fun e w' => e = .returned (.tuple #[]) ∧ ∃ d', Merged soonL a m b d d' ∧ SZ encL 4 w0 blk off d0.size d' w' := by
 have eg : ∀ args w, (callFunc 130 args).run Tryz.prog w = .ok (.enter 130 args) w := enters_of Tryz.func130 (by kernel_rfl) rfl
 exact sym_any stL encL cmpL 130 #[] swoL blk off cap d0 w0 eg (cmpLaysL blk off d0.size w0) R (by omega) (b - a + 1) a m b d w (by omega) ham hmb hb hZ
theorem stable_few (blk off cap : Nat) (d : Array Lo) (w : World) (R : RowK encL 4 w blk off d) (hn : d.size < 20) :
  Calls Tryz.prog 160 #[.slice (some ⟨blk, off, none⟩) d.size cap, .int .i64 d.size, .func (.func 130) #[] #[]] w fun e w' => e = .returned (.tuple #[]) ∧ ∃ d', Stably d.size d d' ∧ SZ encL 4 w blk off d.size d' w' := by
 have h0 : Calls Tryz.prog 172 #[.slice (some ⟨blk, off, none⟩) d.size cap, .int .i64 0, .int .i64 d.size, .func (.func 130) #[] #[]] w _ := insL blk off cap d w R (by omega) 0 d.size d w (Nat.zero_le _) (Nat.le_refl _) ⟨rfl, SWK.start R.hH⟩
 have HS : Hid (Stably d.size d (insertionSort soonL d 0 d.size)) := stably_one (Nat.le_refl _)
 have H0 : Hid (Calls Tryz.prog _ _ _ _) := h0
 clear h0 R
 generalize insertionSort soonL d 0 d.size = d1 at *
 generalize d.size = n at *
 go_enter Tryz.func160, Tryz.ntmps160
 go_wp2
 refine wp_loop_rounds 1 ?_
 rw [rounds_succ]
 go_wp2_with (go_at_call 172; refine H0.out.mono ?_; rintro e w1 ⟨rfl, Z1⟩)
 refine wp_loop_rounds 1 ?_
 rw [rounds_succ]
 go_wp2
 go_end0
 exact ⟨rfl, d1, HS.out, Z1⟩
theorem stable_twenty (blk off cap : Nat) (d : Array Lo) (w : World) (R : RowK encL 4 w blk off d) (hn : d.size = 20) :
  Calls Tryz.prog 160 #[.slice (some ⟨blk, off, none⟩) 20 cap, .int .i64 20, .func (.func 130) #[] #[]] w fun e w' => e = .returned (.tuple #[]) ∧ ∃ d', Stably 20 d d' ∧ SZ encL 4 w blk off 20 d' w' := by
 have i1 := fun a b d1 w1 h1 h2 => insL blk off cap d w R (by omega) a b d1 w1 h1 h2
 rw [hn] at i1
 have h0 : Calls Tryz.prog 172 #[.slice (some ⟨blk, off, none⟩) 20 cap, .int .i64 0, .int .i64 20, .func (.func 130) #[] #[]] w _ := i1 0 20 d w (by decide) (by decide) ⟨hn, SWK.start R.hH⟩
 have h1 : ∀ d1 w1, SZ encL 4 w blk off 20 d1 w1 → Calls Tryz.prog 172 #[.slice (some ⟨blk, off, none⟩) 20 cap, .int .i64 20, .int .i64 20, .func (.func 130) #[] #[]] w1 _ := fun d1 w1 h => i1 20 20 d1 w1 (by decide) (by decide) h
 have HS : Hid (Stably 20 d (insertionSort soonL d 0 20)) := stably_one (by omega)
 have H0 : Hid (Calls Tryz.prog _ _ _ _) := h0
 have H1 : Aside _ := h1
 clear h0 h1 i1 R
 generalize insertionSort soonL d 0 20 = d1 at *
 go_enter Tryz.func160, Tryz.ntmps160
 go_wp2
 refine wp_loop_rounds 2 ?_
 rw [rounds_succ]
 go_wp2_with (go_at_call_of 172 (Value.int .i64 0); refine H0.out.mono ?_; rintro e w1 ⟨rfl, Z1⟩)
 rw [rounds_succ]
 go_wp2_with (go_at_call 172; refine (H1.out _ _ Z1).mono ?_; rintro e w2 ⟨rfl, Z2⟩)
 refine wp_loop_rounds 1 ?_
 rw [rounds_succ]
 go_wp2
 go_end0
 rw [ins_none] at Z2
 exact ⟨rfl, d1, HS.out, Z2⟩
theorem stable_more (blk off cap : Nat) (d : Array Lo) (w : World) (R : RowK encL 4 w blk off d) (hn : 20 < d.size) (hn' : d.size < 40) :
  Calls Tryz.prog 160 #[.slice (some ⟨blk, off, none⟩) d.size cap, .int .i64 d.size, .func (.func 130) #[] #[]] w fun e w' => e = .returned (.tuple #[]) ∧ ∃ d', Stably d.size d d' ∧ SZ encL 4 w blk off d.size d' w' := by
 have h0 : Calls Tryz.prog 172 #[.slice (some ⟨blk, off, none⟩) d.size cap, .int .i64 0, .int .i64 20, .func (.func 130) #[] #[]] w _ := insL blk off cap d w R (by omega) 0 20 d w (by decide) (by omega) ⟨rfl, SWK.start R.hH⟩
 have h1 : ∀ d1 w1, SZ encL 4 w blk off d.size d1 w1 → Calls Tryz.prog 172 #[.slice (some ⟨blk, off, none⟩) d.size cap, .int .i64 20, .int .i64 d.size, .func (.func 130) #[] #[]] w1 _ := fun d1 w1 h => insL blk off cap d w R (by omega) 20 d.size d1 w1 (by omega) (Nat.le_refl _) h
 have h2 : ∀ d1 w1, SZ encL 4 w blk off d.size d1 w1 → Calls Tryz.prog 173 #[.slice (some ⟨blk, off, none⟩) d.size cap, .int .i64 0, .int .i64 20, .int .i64 d.size, .func (.func 130) #[] #[]] w1 _ := fun d1 w1 h => symL blk off cap d w R (by omega) 0 20 d.size d1 w1 (by decide) hn (Nat.le_refl _) h
 have HS : Hid (∀ d', Merged soonL 0 20 d.size (insertionSort soonL (insertionSort soonL d 0 20) 20 d.size) d' → Stably d.size d d') := fun d' h => stably_two (by omega) (Nat.le_refl _) h
 have H0 : Hid (Calls Tryz.prog _ _ _ _) := h0
 have H1 : Aside _ := h1
 have H2 : Aside _ := h2
 clear h0 h1 h2 R
 generalize insertionSort soonL d 0 20 = d1 at *
 generalize d.size = n at *
 go_enter Tryz.func160, Tryz.ntmps160
 go_wp2
 refine wp_loop_rounds 2 ?_
 rw [rounds_succ]
 go_wp2_with (go_at_call_of 172 (Value.int .i64 0); refine H0.out.mono ?_; rintro e w1 ⟨rfl, Z1⟩)
 rw [rounds_succ]
 go_wp2_with (go_at_call 172; refine (H1.out _ _ Z1).mono ?_; rintro e w2 ⟨rfl, Z2⟩)
 refine wp_loop_rounds 2 ?_
 rw [rounds_succ]
 go_wp2
 refine wp_loop_rounds 1 ?_
 rw [rounds_succ]
 go_wp2_with (go_at_call 173; refine (H2.out _ _ Z2).mono ?_; rintro e w3 ⟨rfl, d3, hm3, Z3⟩)
 rw [rounds_succ]
 go_wp2
 go_end0
 exact ⟨rfl, d3, HS.out d3 hm3, Z3⟩
theorem stable_forty (blk off cap : Nat) (d : Array Lo) (w : World) (R : RowK encL 4 w blk off d) (hn : d.size = 40) :
  Calls Tryz.prog 160 #[.slice (some ⟨blk, off, none⟩) 40 cap, .int .i64 40, .func (.func 130) #[] #[]] w fun e w' => e = .returned (.tuple #[]) ∧ ∃ d', Stably 40 d d' ∧ SZ encL 4 w blk off 40 d' w' := by
 have i1 := fun a b d1 w1 h1 h2 => insL blk off cap d w R (by omega) a b d1 w1 h1 h2
 have i2 := fun a m b d1 w1 h1 h2 h3 => symL blk off cap d w R (by omega) a m b d1 w1 h1 h2 h3
 rw [hn] at i1 i2
 have h0 : Calls Tryz.prog 172 #[.slice (some ⟨blk, off, none⟩) 40 cap, .int .i64 0, .int .i64 20, .func (.func 130) #[] #[]] w _ := i1 0 20 d w (by decide) (by decide) ⟨hn, SWK.start R.hH⟩
 have h1 : ∀ d1 w1, SZ encL 4 w blk off 40 d1 w1 → Calls Tryz.prog 172 #[.slice (some ⟨blk, off, none⟩) 40 cap, .int .i64 20, .int .i64 40, .func (.func 130) #[] #[]] w1 _ := fun d1 w1 h => i1 20 40 d1 w1 (by decide) (by decide) h
 have h3 : ∀ d1 w1, SZ encL 4 w blk off 40 d1 w1 → Calls Tryz.prog 172 #[.slice (some ⟨blk, off, none⟩) 40 cap, .int .i64 40, .int .i64 40, .func (.func 130) #[] #[]] w1 _ := fun d1 w1 h => i1 40 40 d1 w1 (by decide) (by decide) h
 have h2 : ∀ d1 w1, SZ encL 4 w blk off 40 d1 w1 → Calls Tryz.prog 173 #[.slice (some ⟨blk, off, none⟩) 40 cap, .int .i64 0, .int .i64 20, .int .i64 40, .func (.func 130) #[] #[]] w1 _ := fun d1 w1 h => i2 0 20 40 d1 w1 (by decide) (by decide) (by decide) h
 have HS : Hid (∀ d', Merged soonL 0 20 40 (insertionSort soonL (insertionSort soonL d 0 20) 20 40) d' → Stably 40 d d') := fun d' h => stably_two (by omega) (by omega) h
 have H0 : Hid (Calls Tryz.prog _ _ _ _) := h0
 have H1 : Aside _ := h1
 have H2 : Aside _ := h2
 have H3 : Aside _ := h3
 clear h0 h1 h2 h3 i1 i2 R
 generalize insertionSort soonL d 0 20 = d1 at *
 go_enter Tryz.func160, Tryz.ntmps160
 go_wp2
 refine wp_loop_rounds 3 ?_
 rw [rounds_succ]
 go_wp2_with (go_at_call_of 172 (Value.int .i64 0); refine H0.out.mono ?_; rintro e w1 ⟨rfl, Z1⟩)
 rw [rounds_succ]
 go_wp2_with (go_at_call 172; refine (H1.out _ _ Z1).mono ?_; rintro e w2 ⟨rfl, Z2⟩)
 rw [rounds_succ]
 go_wp2_with (go_at_call 172; refine (H3.out _ _ Z2).mono ?_; rintro e w3 ⟨rfl, Z3⟩)
 refine wp_loop_rounds 2 ?_
 rw [rounds_succ]
 go_wp2
 refine wp_loop_rounds 2 ?_
 rw [rounds_succ]
 rw [ins_none] at Z3
 go_wp2_with (go_at_call 173; refine (H2.out _ _ Z3).mono ?_; rintro e w4 ⟨rfl, d4, hm4, Z4⟩)
 rw [rounds_succ]
 go_wp2
 rw [rounds_succ]
 go_wp2
 go_end0
 exact ⟨rfl, d4, HS.out d4 hm4, Z4⟩
theorem stable_fifty (blk off cap : Nat) (d : Array Lo) (w : World) (R : RowK encL 4 w blk off d) (hn : 40 < d.size) (hn' : d.size < 60) :
  Calls Tryz.prog 160 #[.slice (some ⟨blk, off, none⟩) d.size cap, .int .i64 d.size, .func (.func 130) #[] #[]] w fun e w' => e = .returned (.tuple #[]) ∧ ∃ d', Stably d.size d d' ∧ SZ encL 4 w blk off d.size d' w' := by
 have h0 : Calls Tryz.prog 172 #[.slice (some ⟨blk, off, none⟩) d.size cap, .int .i64 0, .int .i64 20, .func (.func 130) #[] #[]] w _ := insL blk off cap d w R (by omega) 0 20 d w (by decide) (by omega) ⟨rfl, SWK.start R.hH⟩
 have h1 : ∀ d1 w1, SZ encL 4 w blk off d.size d1 w1 → Calls Tryz.prog 172 #[.slice (some ⟨blk, off, none⟩) d.size cap, .int .i64 20, .int .i64 40, .func (.func 130) #[] #[]] w1 _ := fun d1 w1 h => insL blk off cap d w R (by omega) 20 40 d1 w1 (by decide) (by omega) h
 have h3 : ∀ d1 w1, SZ encL 4 w blk off d.size d1 w1 → Calls Tryz.prog 172 #[.slice (some ⟨blk, off, none⟩) d.size cap, .int .i64 40, .int .i64 d.size, .func (.func 130) #[] #[]] w1 _ := fun d1 w1 h => insL blk off cap d w R (by omega) 40 d.size d1 w1 (by omega) (Nat.le_refl _) h
 have h2 : ∀ d1 w1, SZ encL 4 w blk off d.size d1 w1 → Calls Tryz.prog 173 #[.slice (some ⟨blk, off, none⟩) d.size cap, .int .i64 0, .int .i64 20, .int .i64 40, .func (.func 130) #[] #[]] w1 _ := fun d1 w1 h => symL blk off cap d w R (by omega) 0 20 40 d1 w1 (by decide) (by decide) (by omega) h
 have h4 : ∀ d1 w1, SZ encL 4 w blk off d.size d1 w1 → Calls Tryz.prog 173 #[.slice (some ⟨blk, off, none⟩) d.size cap, .int .i64 0, .int .i64 40, .int .i64 d.size, .func (.func 130) #[] #[]] w1 _ := fun d1 w1 h => symL blk off cap d w R (by omega) 0 40 d.size d1 w1 (by decide) hn (Nat.le_refl _) h
 have HS : Hid (∀ d4 d', Merged soonL 0 20 40 (insertionSort soonL (insertionSort soonL (insertionSort soonL d 0 20) 20 40) 40 d.size) d4 → Merged soonL 0 40 d.size d4 d' → Stably d.size d d') := fun d4 d' h h' => stably_three (by omega) (Nat.le_refl _) h h'
 have H0 : Hid (Calls Tryz.prog _ _ _ _) := h0
 have H1 : Aside _ := h1
 have H2 : Aside _ := h2
 have H3 : Aside _ := h3
 have H4 : Aside _ := h4
 clear h0 h1 h2 h3 h4 R
 generalize insertionSort soonL d 0 20 = d1 at *
 generalize d.size = n at *
 go_enter Tryz.func160, Tryz.ntmps160
 go_wp2
 refine wp_loop_rounds 3 ?_
 rw [rounds_succ]
 go_wp2_with (go_at_call_of 172 (Value.int .i64 0); refine H0.out.mono ?_; rintro e w1 ⟨rfl, Z1⟩)
 rw [rounds_succ]
 go_wp2_with (go_at_call 172; refine (H1.out _ _ Z1).mono ?_; rintro e w2 ⟨rfl, Z2⟩)
 rw [rounds_succ]
 go_wp2_with (go_at_call 172; refine (H3.out _ _ Z2).mono ?_; rintro e w3 ⟨rfl, Z3⟩)
 refine wp_loop_rounds 3 ?_
 rw [rounds_succ]
 go_wp2
 refine wp_loop_rounds 2 ?_
 rw [rounds_succ]
 go_wp2_with (go_at_call 173; refine (H2.out _ _ Z3).mono ?_; rintro e w4 ⟨rfl, d4, hm4, Z4⟩)
 rw [rounds_succ]
 go_wp2
 rw [rounds_succ]
 go_wp2
 refine wp_loop_rounds 1 ?_
 rw [rounds_succ]
 go_wp2_with (go_at_call 173; refine (H4.out _ _ Z4).mono ?_; rintro e w5 ⟨rfl, d5, hm5, Z5⟩)
 rw [rounds_succ]
 go_wp2
 go_end0
 exact ⟨rfl, d5, HS.out d4 d5 hm4 hm5, Z5⟩
theorem sortStable_any (blk off cap : Nat) (d : Array Lo) (w : World) (hH : HoldsK encL 4 w blk off d) (hblk : blk < w.heap.size) (hn : d.size ≤ 59) :
  Calls Tryz.prog 129 #[.slice (some ⟨blk, off, none⟩) d.size cap, .func (.func 130) #[] #[]] w fun e w' => e = .returned (.tuple #[]) ∧ ∃ d', Stably d.size d d' ∧ SZ encL 4 w blk off d.size d' w' := by
 have R : RowK encL 4 w blk off d := ⟨encL_len, encL_one, hH, hblk⟩
 have hs : Calls Tryz.prog 160 #[.slice (some ⟨blk, off, none⟩) d.size cap, .int .i64 d.size, .func (.func 130) #[] #[]] w fun e w' => e = .returned (.tuple #[]) ∧ ∃ d', Stably d.size d d' ∧ SZ encL 4 w blk off d.size d' w' := by
  rcases Nat.lt_trichotomy d.size 20 with h | h | h
  ·exact stable_few blk off cap d w R h
  ·have := stable_twenty blk off cap d w R h
   rw [h]; exact this
  ·by_cases h' : d.size < 40
   ·exact stable_more blk off cap d w R h h'
   ·by_cases h4 : d.size = 40
    ·have := stable_forty blk off cap d w R h4
     rw [h4]; exact this
    ·exact stable_fifty blk off cap d w R (by omega) (by omega)
 have HS : Hid (Calls Tryz.prog _ _ _ _) := hs
 clear hs R hH hblk
 go_enter Tryz.func129, Tryz.ntmps129
 go_wp2_with (go_at_call 160; refine HS.out.mono ?_; rintro e w1 ⟨rfl, d1, h1, Z1⟩)
 go_end0
 exact ⟨rfl, d1, h1, Z1⟩
end Go.Proofs.YtefkchmahcjleaaGreatDoor
namespace Go.Proofs.YtefkchmahcjleaaGreatDoor
open Go.RowKit Go.Lib Go.Sort Go.Shelf
theorem Tryz.infoLo : (Tryz.prog.info? 40).map (fun i => (i.zero, i.size, i.bytes)) = some (some (.agg #[.string ⟨#[]⟩, .string ⟨#[]⟩, .int .i64 0, .int .i64 0]), 4, 48) := by kernel_rfl
theorem below_sortL {B : Nat} (w : World) (blk off n : Nat) (d : Array Lo) (os : Array Obj) (hB : B ≤ w.heap.size) (hb : B ≤ blk) : Below B w (sortWorldK encL 4 w blk off n d os) := by
 refine ⟨rfl, rfl, rfl, ?_, fun k hk => ?_⟩
 ·unfold sortWorldK; rw [size_grow, size_putRowK]; simp
 ·unfold sortWorldK
  rw [heap_grow_old _ _ (by rw [size_putRowK]; simp; omega)]
  show (w.heap.modify blk _)[k]? = _
  rw [Array.getElem?_modify, if_neg (by omega)]
theorem flatL_one (d : Array Lo) : ∀ u ∈ (flatK encL 4 d).toList, u.oneCell' = true := by
 intro u hu
 unfold flatK at hu
 simp only [Array.toList_map, List.mem_map] at hu
 obtain ⟨t, _, rfl⟩ := hu
 have ht : t % 4 < 4 := Nat.mod_lt _ (by decide)
 exact encL_one _ _ (by rw [getElem!_pos (encL d[t / 4]!) (t % 4) (by rw [encL_len]; exact ht)]; exact List.getElem_mem _)
def RowL (w : World) (b off : Nat) (d : Array Lo) : Prop := ∀ j, j < d.size * 4 → w.cell? ⟨b, off + j, none⟩ = some (flatK encL 4 d)[j]!
theorem ownL_shape {w : World} {base e size n : Nat} {v : Value} {xs : List Value} (h : w.ownsRow base e size v n xs) (hv : v ≠ .slice none 0 0) : ∃ g cap, v = .slice (some ⟨g, 0, none⟩) n cap ∧ base ≤ g ∧ g < w.heap.size := by
 rcases h.2 with ⟨rfl, _⟩ | ⟨g, cap, cur, rfl, hg, hb, _⟩
 ·exact absurd rfl hv
 ·exact ⟨g, cap, rfl, hg, by
   rcases Nat.lt_or_ge g w.heap.size with h' | h'
   ·exact h'
   ·simp [Array.getElem?_eq_none h'] at hb⟩
theorem ownL_holds {w : World} {base g cap : Nat} {d : Array Lo} (h : w.ownsRow base 40 4 (.slice (some ⟨g, 0, none⟩) d.size cap) d.size (flatK encL 4 d).toList) : HoldsK encL 4 w g 0 d := by
 intro j hj
 rw [size_flatK] at hj
 refine ⟨?_, ?_⟩
 ·rw [Nat.zero_add, h.cellAt j hj, Array.getElem?_toList, getElem!_pos _ j (by rw [size_flatK]; exact hj), Array.getElem?_eq_getElem]; rfl
 ·rw [Nat.zero_add]; exact h.frozenAt j
theorem sorted_some (b off c : Nat) (d : Array Lo) (w : World) (hn : d.size ≤ 59) (hr : RowL w b off d) :
  Calls Tryz.prog 104 #[.slice (some ⟨b, off, none⟩) d.size c] w fun e w' => ∃ g cap d', e = .returned (.slice (some ⟨g, 0, none⟩) d.size cap) ∧ w.heap.size ≤ g ∧ Stably d.size d d' ∧ HoldsK encL 4 w' g 0 d' ∧ Below w.heap.size w w' := by
 obtain ⟨i0, hi, hz0, hz1, hz2⟩ := info_parts Tryz.infoLo
 have hcl := AnyE.slices_Clone Tryz.laysCloneL i0 (.agg #[.string ⟨#[]⟩, .string ⟨#[]⟩, .int .i64 0, .int .i64 0]) 4 48 hi hz0 hz1 hz2 rfl (by decide) Tryz.sizeOf40 b off d.size c (flatK encL 4 d).toList w (by simp) (by unfold maxLen; omega) (by omega)
  (fun j u hj => by
   obtain ⟨hj', hu⟩ := List.getElem?_eq_some_iff.1 hj
   have hj2 : j < d.size * 4 := by simpa using hj'
   rw [hr j hj2, getElem!_pos _ j (by rw [size_flatK]; exact hj2)]
   rw [← hu]; simp) (flatL_one d)
 have hso := fun g cap w1 (hH : HoldsK encL 4 w1 g 0 d) (hg : g < w1.heap.size) => sortStable_any g 0 cap d w1 hH hg hn
 change Calls Tryz.prog 128 _ _ _ at hcl
 have HC : Hid (Calls Tryz.prog 128 _ _ _) := hcl
 clear hcl hr
 go_enter Tryz.func104, Tryz.ntmps104
 go_wp2_with (first
  | (go_at_call 128; refine HC.out.mono ?_; rintro e w1 ⟨v', rfl, hown, hne, hb⟩; obtain ⟨g, cap, rfl, hg, hlt⟩ := ownL_shape hown hne; have hH := ownL_holds hown; clear hown)
  | (go_at_call 129; refine (hso g cap _ hH hlt).mono ?_; rintro e w2 ⟨rfl, d', hst, hsz, m, os, rfl⟩))
 go_ret
 exact ⟨g, cap, d', rfl, hg, hst, SWK.holds ⟨m, os, rfl⟩ hlt hH hst.1.1, hb.trans (below_sortL w1 g 0 m d' os hb.size hg)⟩
theorem sortStable_none (w : World) : Calls Tryz.prog 129 #[.slice none 0 0, .func (.func 130) #[] #[]] w fun e w' => e = .returned (.tuple #[]) ∧ w' = w := by
 have hi : ∀ w, Calls Tryz.prog 172 #[.slice none 0 0, .int .i64 0, .int .i64 0, .func (.func 130) #[] #[]] w fun e w' => e = .returned (.tuple #[]) ∧ w' = w := fun w => by
  go_enter Tryz.func172, Tryz.ntmps172
  go_wp2
  refine wp_loop_rounds 1 ?_
  rw [rounds_succ]
  go_wp2
  go_end0
  exact ⟨rfl, rfl⟩
 have hs : ∀ w, Calls Tryz.prog 160 #[.slice none 0 0, .int .i64 0, .func (.func 130) #[] #[]] w fun e w' => e = .returned (.tuple #[]) ∧ w' = w := fun w => by
  go_enter Tryz.func160, Tryz.ntmps160
  go_wp2
  refine wp_loop_rounds 1 ?_
  rw [rounds_succ]
  go_wp2_with (go_at_call 172; refine (hi _).mono ?_; rintro e w1 ⟨rfl, rfl⟩)
  refine wp_loop_rounds 1 ?_
  rw [rounds_succ]
  go_wp2
  go_end0
  exact ⟨rfl, rfl⟩
 clear hi
 go_enter Tryz.func129, Tryz.ntmps129
 go_wp2_with (go_at_call 160; refine (hs _).mono ?_; rintro e w1 ⟨rfl, rfl⟩)
 go_end0
 exact ⟨rfl, rfl⟩
theorem sorted_none (w : World) : Calls Tryz.prog 104 #[.slice none 0 0] w fun e w' => e = .returned (.slice none 0 0) ∧ w' = w := by
 have hcl := AnyE.slices_Clone_nil Tryz.laysCloneL 0 0 w
 have hso := fun W => sortStable_none W
 change Calls Tryz.prog 128 _ _ _ at hcl
 go_enter Tryz.func104, Tryz.ntmps104
 go_wp2_with (first
  | (go_at_call 128; refine hcl.mono ?_; rintro e w1 ⟨rfl, rfl⟩)
  | (go_at_call 129; refine (hso _).mono ?_; rintro e w2 ⟨rfl, rfl⟩))
 go_ret
 exact ⟨rfl, rfl⟩
theorem RowL.cells {w : World} {b off : Nat} {d : Array Lo} (h : RowL w b off d) {j : Nat} (hj : j < d.size) :
  w.cell? ⟨b, off + j * 4, none⟩ = some (.string d[j]!.1) ∧ w.cell? ⟨b, off + j * 4 + 1, none⟩ = some (.string d[j]!.2.1) ∧ w.cell? ⟨b, off + j * 4 + 2, none⟩ = some (.int .i64 d[j]!.2.2.1) ∧ w.cell? ⟨b, off + j * 4 + 3, none⟩ = some (.int .i64 d[j]!.2.2.2) := by
 have key : ∀ c, c < 4 → w.cell? ⟨b, off + (j * 4 + c), none⟩ = some ((encL d[j]!)[c]!) := by
  intro c hc
  have := h (j * 4 + c) (by omega)
  rw [get_flatK encL 4 d _ (by omega), show (j * 4 + c) / 4 = j by omega, show (j * 4 + c) % 4 = c by omega] at this
  exact this
 exact ⟨key 0 (by decide), key 1 (by decide), key 2 (by decide), key 3 (by decide)⟩
theorem RowL.below {w w' : World} {b off : Nat} {d : Array Lo} (h : RowL w b off d) (hb : Below w.heap.size w w') : RowL w' b off d := fun j hj => by
 rw [hb.cell (p := ⟨b, off + j, none⟩) (cell_lt (h j hj))]; exact h j hj
theorem RowL.of_holds {w : World} {g : Nat} {d : Array Lo} (h : HoldsK encL 4 w g 0 d) : RowL w g 0 d := fun j hj => (h j (by rw [size_flatK]; exact hj)).1
end Go.Proofs.YtefkchmahcjleaaGreatDoor
