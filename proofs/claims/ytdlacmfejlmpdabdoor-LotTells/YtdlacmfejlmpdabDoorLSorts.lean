/-
  What lot.Sorted answers at no lots and at one to forty; the closed fact of the laws on lots; the language's comparison of two lots; plain facts on rows of lots; the law LotSorts answers true of no lots and of more than forty.
-/
import Derived.Test.YtdlacmfejlmpdabDoorLStable
import Derived.Test.YtdlacmfejlmpdabDoorLCheck
import Derived.Laws.StructEq
import Derived.Laws.AppendOwnNone
import Derived.Deep.AppendLies
import Derived.OwnWalk
import Derived.WalkKit
namespace Go.Proofs.YtdlacmfejlmpdabDoor
open Go.RowKit Go.Lib Go.Sort Go.Shelf

theorem Tryd.infoLo : (Tryd.prog.info? 23).map (fun i => (i.zero, i.size, i.bytes)) = some (some (.agg #[.string ⟨#[]⟩, .string ⟨#[]⟩, .int .i64 0, .int .i64 0]), 4, 48) := by kernel_rfl
theorem below_sortL {B : Nat} (w : World) (blk off n : Nat) (d : Array Lo) (os : Array Obj) (hB : B ≤ w.heap.size) (hb : B ≤ blk) : Below B w (sortWorldK encL 4 w blk off n d os) := by
  refine ⟨rfl, rfl, rfl, ?_, fun k hk => ?_⟩
  · unfold sortWorldK; rw [size_grow, size_putRowK]; simp
  · unfold sortWorldK
    rw [heap_grow_old _ _ (by rw [size_putRowK]; simp; omega)]
    show (w.heap.modify blk _)[k]? = _
    rw [Array.getElem?_modify, if_neg (by omega)]
theorem flatL_one (d : Array Lo) : ∀ u ∈ (flatK encL 4 d).toList, u.oneCell' = true := by
  intro u hu
  unfold flatK at hu
  simp only [Array.toList_map, List.mem_map] at hu
  obtain ⟨t, _, rfl⟩ := hu
  have ht : t % 4 < 4 := Nat.mod_lt _ (by decide)
  exact encL_one _ _ (by rw [getElem!_pos (encL d[t / 4]!) (t % 4) (by rw [encL_len]; exact ht)]; exact List.getElem_mem _)
/-- The lots lie in a row. -/
def RowL (w : World) (b off : Nat) (d : Array Lo) : Prop := ∀ j, j < d.size * 4 → w.cell? ⟨b, off + j, none⟩ = some (flatK encL 4 d)[j]!
theorem ownL_shape {w : World} {base e size n : Nat} {v : Value} {xs : List Value} (h : w.ownsRow base e size v n xs) (hv : v ≠ .slice none 0 0) : ∃ g cap, v = .slice (some ⟨g, 0, none⟩) n cap ∧ base ≤ g ∧ g < w.heap.size := by
  rcases h.2 with ⟨rfl, _⟩ | ⟨g, cap, cur, rfl, hg, hb, _⟩
  · exact absurd rfl hv
  · exact ⟨g, cap, rfl, hg, by
      rcases Nat.lt_or_ge g w.heap.size with h' | h'
      · exact h'
      · simp [Array.getElem?_eq_none h'] at hb⟩
theorem ownL_holds {w : World} {base g cap : Nat} {d : Array Lo} (h : w.ownsRow base 23 4 (.slice (some ⟨g, 0, none⟩) d.size cap) d.size (flatK encL 4 d).toList) : HoldsK encL 4 w g 0 d := by
  intro j hj
  rw [size_flatK] at hj
  refine ⟨?_, ?_⟩
  · rw [Nat.zero_add, h.cellAt j hj, Array.getElem?_toList, getElem!_pos _ j (by rw [size_flatK]; exact hj), Array.getElem?_eq_getElem]; rfl
  · rw [Nat.zero_add]; exact h.frozenAt j
set_option maxHeartbeats 1000000 in
/-- lot.Sorted, of a slice that is not nil. -/
theorem sorted_some (b off c : Nat) (d : Array Lo) (w : World) (hn : d.size ≤ 40) (hr : RowL w b off d) :
    Calls Tryd.prog 17 #[.slice (some ⟨b, off, none⟩) d.size c] w fun e w' => ∃ g cap d', e = .returned (.slice (some ⟨g, 0, none⟩) d.size cap) ∧ w.heap.size ≤ g ∧ Stably d.size d d' ∧ HoldsK encL 4 w' g 0 d' ∧ Below w.heap.size w w' := by
  obtain ⟨i0, hi, hz0, hz1, hz2⟩ := info_parts Tryd.infoLo
  have hcl := AnyE.slices_Clone Tryd.laysCloneL i0 (.agg #[.string ⟨#[]⟩, .string ⟨#[]⟩, .int .i64 0, .int .i64 0]) 4 48 hi hz0 hz1 hz2 rfl (by decide) Tryd.sizeOf23 b off d.size c (flatK encL 4 d).toList w (by simp) (by unfold maxLen; omega) (by omega)
    (fun j u hj => by
      obtain ⟨hj', hu⟩ := List.getElem?_eq_some_iff.1 hj
      have hj2 : j < d.size * 4 := by simpa using hj'
      rw [hr j hj2, getElem!_pos _ j (by rw [size_flatK]; exact hj2)]
      rw [← hu]; simp) (flatL_one d)
  have hso := fun g cap w1 (hH : HoldsK encL 4 w1 g 0 d) (hg : g < w1.heap.size) => sortStable_any g 0 cap d w1 hH hg hn
  change Calls Tryd.prog 26 _ _ _ at hcl
  have HC : Hid (Calls Tryd.prog 26 _ _ _) := hcl
  clear hcl hr
  go_enter Tryd.func17, Tryd.ntmps17
  go_wp2_with (first
    | (go_at_call 26; refine HC.out.mono ?_; rintro e w1 ⟨v', rfl, hown, hne, hb⟩; obtain ⟨g, cap, rfl, hg, hlt⟩ := ownL_shape hown hne; have hH := ownL_holds hown; clear hown)
    | (go_at_call 27; refine (hso g cap _ hH hlt).mono ?_; rintro e w2 ⟨rfl, d', hst, hsz, m, os, rfl⟩))
  go_ret
  exact ⟨g, cap, d', rfl, hg, hst, SWK.holds ⟨m, os, rfl⟩ hlt hH hst.1.1, hb.trans (below_sortL w1 g 0 m d' os hb.size hg)⟩
set_option maxHeartbeats 1000000 in
/-- slices.SortStableFunc of nil. -/
theorem sortStable_none (w : World) : Calls Tryd.prog 27 #[.slice none 0 0, .func (.func 25) #[] #[]] w fun e w' => e = .returned (.tuple #[]) ∧ w' = w := by
  have hi : ∀ w, Calls Tryd.prog 50 #[.slice none 0 0, .int .i64 0, .int .i64 0, .func (.func 25) #[] #[]] w fun e w' => e = .returned (.tuple #[]) ∧ w' = w := fun w => by
    go_enter Tryd.func50, Tryd.ntmps50
    go_wp2
    refine wp_loop_rounds 1 ?_
    rw [rounds_succ]
    go_wp2
    go_end0
    exact ⟨rfl, rfl⟩
  have hs : ∀ w, Calls Tryd.prog 38 #[.slice none 0 0, .int .i64 0, .func (.func 25) #[] #[]] w fun e w' => e = .returned (.tuple #[]) ∧ w' = w := fun w => by
    go_enter Tryd.func38, Tryd.ntmps38
    go_wp2
    refine wp_loop_rounds 1 ?_
    rw [rounds_succ]
    go_wp2_with (go_at_call 50; refine (hi _).mono ?_; rintro e w1 ⟨rfl, rfl⟩)
    refine wp_loop_rounds 1 ?_
    rw [rounds_succ]
    go_wp2
    go_end0
    exact ⟨rfl, rfl⟩
  clear hi
  go_enter Tryd.func27, Tryd.ntmps27
  go_wp2_with (go_at_call 38; refine (hs _).mono ?_; rintro e w1 ⟨rfl, rfl⟩)
  go_end0
  exact ⟨rfl, rfl⟩
set_option maxHeartbeats 1000000 in
/-- lot.Sorted of nil. -/
theorem sorted_none (w : World) : Calls Tryd.prog 17 #[.slice none 0 0] w fun e w' => e = .returned (.slice none 0 0) ∧ w' = w := by
  have hcl := AnyE.slices_Clone_nil Tryd.laysCloneL 0 0 w
  have hso := fun W => sortStable_none W
  change Calls Tryd.prog 26 _ _ _ at hcl
  go_enter Tryd.func17, Tryd.ntmps17
  go_wp2_with (first
    | (go_at_call 26; refine hcl.mono ?_; rintro e w1 ⟨rfl, rfl⟩)
    | (go_at_call 27; refine (hso _).mono ?_; rintro e w2 ⟨rfl, rfl⟩))
  go_ret
  exact ⟨rfl, rfl⟩

theorem RowL.cells {w : World} {b off : Nat} {d : Array Lo} (h : RowL w b off d) {j : Nat} (hj : j < d.size) :
    w.cell? ⟨b, off + j * 4, none⟩ = some (.string d[j]!.1) ∧ w.cell? ⟨b, off + j * 4 + 1, none⟩ = some (.string d[j]!.2.1) ∧ w.cell? ⟨b, off + j * 4 + 2, none⟩ = some (.int .i64 d[j]!.2.2.1) ∧ w.cell? ⟨b, off + j * 4 + 3, none⟩ = some (.int .i64 d[j]!.2.2.2) := by
  have key : ∀ c, c < 4 → w.cell? ⟨b, off + (j * 4 + c), none⟩ = some ((encL d[j]!)[c]!) := by
    intro c hc
    have := h (j * 4 + c) (by omega)
    rw [get_flatK encL 4 d _ (by omega), show (j * 4 + c) / 4 = j by omega, show (j * 4 + c) % 4 = c by omega] at this
    exact this
  exact ⟨key 0 (by decide), key 1 (by decide), key 2 (by decide), key 3 (by decide)⟩
theorem RowL.below {w w' : World} {b off : Nat} {d : Array Lo} (h : RowL w b off d) (hb : Below w.heap.size w w') : RowL w' b off d := fun j hj => by
  rw [hb.cell (p := ⟨b, off + j, none⟩) (cell_lt (h j hj))]; exact h j hj
theorem RowL.of_holds {w : World} {g : Nat} {d : Array Lo} (h : HoldsK encL 4 w g 0 d) : RowL w g 0 d := fun j hj => (h j (by rw [size_flatK]; exact hj)).1
/-- How many of the first j are e. -/
def cntL (e : Lo) (d : Array Lo) (j : Nat) : Nat := ((d.toList.take j).countP fun x => decide (x = e))
theorem cntL_le (e : Lo) (d : Array Lo) (j : Nat) : cntL e d j ≤ j := by
  unfold cntL
  have h1 := List.countP_le_length (p := fun x => decide (x = e)) (l := d.toList.take j)
  have h2 := List.length_take_le j d.toList
  omega
theorem takeL_next (d : Array Lo) (j : Nat) (hj : j < d.size) : d.toList.take (j + 1) = d.toList.take j ++ [d[j]!] := by
  rw [List.take_succ_eq_append_getElem (by simpa using hj), getElem!_pos d j hj]; rfl
theorem cntL_hit {e : Lo} {d : Array Lo} {j : Nat} (hj : j < d.size) (h : d[j]! = e) : cntL e d (j + 1) = cntL e d j + 1 := by
  unfold cntL; rw [takeL_next d j hj, List.countP_append]; simp [h]
theorem cntL_miss {e : Lo} {d : Array Lo} {j : Nat} (hj : j < d.size) (h : d[j]! ≠ e) : cntL e d (j + 1) = cntL e d j := by
  unfold cntL; rw [takeL_next d j hj, List.countP_append]; simp [h]
theorem cntL_perm {e : Lo} {d d' : Array Lo} (h : PermIn 0 d.size d d') : cntL e d' d.size = cntL e d d.size := by
  obtain ⟨hs, _, hp⟩ := h
  have e1 : (d'.extract 0 d.size).toList = d'.toList.take d.size := by simp
  have e2 : (d.extract 0 d.size).toList = d.toList.take d.size := by
    rw [Array.toList_extract]; simp
  rw [e1, e2] at hp
  unfold cntL
  exact hp.countP_eq _

theorem Tryd.guardL : Tryd.prog.eqGuardType Tryd.prog.depth 23 = false := by kernel_rfl
theorem eqL_run (x y : Lo) (w : World) : (Op.equalIn 10000 23 (.agg #[.string x.1, .string x.2.1, .int .i64 x.2.2.1, .int .i64 x.2.2.2]) (.agg #[.string y.1, .string y.2.1, .int .i64 y.2.2.1, .int .i64 y.2.2.2])).run Tryd.prog w = .ok (decide (x = y)) w := by
  obtain ⟨a, c, u, k⟩ := x
  obtain ⟨a', c', u', k'⟩ := y
  simp only
  have u3 := Tryd.underlying3
  have a3 := Tryd.isAgg3
  have z3 := Tryd.sizeOf3
  have u9 := Tryd.underlying9
  have a9 := Tryd.isAgg9
  have z9 := Tryd.sizeOf9
  have hS : Tryd.prog.underlying 23 = some (.struct (Tryd.prog.fieldsOf 23)) := by kernel_rfl
  have hp : Tryd.prog.stoodInHeld 23 = false := by kernel_rfl
  rw [show (10000 : Nat) = 9999 + 1 from rfl, run_equalIn_agg w 9999 23 _ _ hS hp]
  simp only [Program.fieldsOf, Tryd.underlying23]
  have e3 := same_eq a a'
  have e4 := same_eq c c'
  go_simp
  by_cases h1 : a = a' <;> by_cases h2 : c = c' <;> by_cases h3 : u = u' <;> by_cases h4 : k = k' <;> simp [h1, h2, h3, h4]
theorem eqL_of {x y : Lo} (h : x = y) (w : World) : (Op.equalIn 10000 23 (.agg #[.string x.1, .string x.2.1, .int .i64 x.2.2.1, .int .i64 x.2.2.2]) (.agg #[.string y.1, .string y.2.1, .int .i64 y.2.2.1, .int .i64 y.2.2.2])).run Tryd.prog w = .ok true w := by
  rw [eqL_run]; simp [h]
theorem eqL_not {x y : Lo} (h : x ≠ y) (w : World) : (Op.equalIn 10000 23 (.agg #[.string x.1, .string x.2.1, .int .i64 x.2.2.1, .int .i64 x.2.2.2]) (.agg #[.string y.1, .string y.2.1, .int .i64 y.2.2.1, .int .i64 y.2.2.2])).run Tryd.prog w = .ok false w := by
  rw [eqL_run, decide_eq_false h]

def wlot : Lo := (⟨#[108, 49]⟩, ⟨#[114, 121, 101]⟩, 30, 5)
theorem wlot_text : ltext wlot = ⟨#[108, 49, 32, 114, 121, 101, 32, 51, 48, 32, 53]⟩ := by
  have e1 : decDigits 30 = [51, 48] := by rw [decDigits_two (by decide) (by decide)]; rfl
  have e2 : decDigits 5 = [53] := by rw [decDigits_one (by decide)]; rfl
  unfold ltext
  rw [if_pos (by decide)]
  show ((((((⟨#[108, 49]⟩ ++ ⟨#[32]⟩) ++ ⟨#[114, 121, 101]⟩) ++ ⟨#[32]⟩) ++ ⟨(decDigits 30).toArray⟩) ++ ⟨#[32]⟩) ++ ⟨(decDigits 5).toArray⟩ : ByteArray) = _
  rw [e1, e2]
  rfl
set_option maxHeartbeats 1000000 in
theorem lotted_any (w : World) (s : Nat → Addr) (hs : Two w s) (hp : Pow w) :
    Calls Tryd.prog 5 #[] w fun e w' => e = .returned (.bool true) ∧ Below w.heap.size w w' := by
  have h := ltext_any wlot w s (by decide) (by decide) hs hp
  rw [wlot_text] at h
  unfold agL wlot at h
  simp only at h
  have H : Hid (Calls Tryd.prog 12 _ _ _) := h
  clear h hs hp
  go_enter Tryd.func5, Tryd.ntmps5
  go_wp2_with (go_at_call 12; refine H.out.mono ?_; rintro e w1 ⟨rfl, hb⟩)
  go_ret
  exact ⟨rfl, hb⟩

set_option maxHeartbeats 1000000 in
theorem sorts_long (p : Option Addr) (n c : Nat) (w : World) (s : Nat → Addr) (hs : Two w s) (hp : Pow w) (hn : 40 < n) (hm : n ≤ maxLen) :
    Calls Tryd.prog 4 #[.slice p n c] w fun e w' => e = .returned (.bool true) ∧ Below w.heap.size w w' := by
  have ht := lotted_any w s hs hp
  have HT : Hid (Calls Tryd.prog 5 _ _ _) := ht
  clear ht hs hp
  unfold maxLen at hm
  go_enter Tryd.func4, Tryd.ntmps4
  go_wp2_with (go_at_call 5; refine HT.out.mono ?_; rintro e w1 ⟨rfl, hb⟩)
  go_ret
  exact ⟨rfl, hb⟩
set_option maxRecDepth 100000 in
set_option maxHeartbeats 2000000 in
theorem sorts_none (p : Option Addr) (c : Nat) (w : World) (s : Nat → Addr) (hs : Two w s) (hp : Pow w) :
    Calls Tryd.prog 4 #[.slice p 0 c] w fun e w' => e = .returned (.bool true) ∧ Below w.heap.size w w' := by
  obtain ⟨i0, hi, hz0, hz1, hz2⟩ := info_parts Tryd.infoLo
  have ht := lotted_any w s hs hp
  have HT : Hid (Calls Tryd.prog 5 _ _ _) := ht
  have hw := fun w => sorted_none w
  clear ht hs hp
  cases p with
  | none =>
    go_enter Tryd.func4, Tryd.ntmps4
    go_wp2_with (first
      | (go_at_call 5; refine HT.out.mono ?_; rintro e w1 ⟨rfl, hb⟩)
      | (go_at_call 17; refine (hw _).mono ?_; rintro e w2 ⟨rfl, rfl⟩))
    refine wp_loop_rounds 1 ?_
    rw [rounds_succ]
    go_wp2
    go_ret
    exact ⟨rfl, hb⟩
  | some ad =>
    go_enter Tryd.func4, Tryd.ntmps4
    go_wp2_with (first
      | (go_at_call 5; refine HT.out.mono ?_; rintro e w1 ⟨rfl, hb⟩)
      | (at_builtin; refine wpList_append_own _ rfl (.tmp 20) (.tmp 21) 40 rfl w.heap.size 23 i0 (.agg #[.string ⟨#[]⟩, .string ⟨#[]⟩, .int .i64 0, .int .i64 0]) 4 48 Tryd.underlying40 hi hz0 hz1 hz2 rfl (by decide) (.slice none 0 0) 0 [] rfl (World.ownsRow_nil _ _ _ _) ad 0 c [] rfl rfl (fun j u hj => by simp at hj) (fun u hu => by simp at hu) (by decide) (by decide) hb.size ?_; intro v' w2 hown hgrow hnil; obtain rfl : v' = .slice none 0 0 := hnil.2 ⟨rfl, rfl⟩; have hb2 : Below w.heap.size w w2 := hb.grown (row := none) hgrow hb.size (fun k hk => by cases hk); clear hown hgrow hnil)
      | (go_at_call 17; refine (hw _).mono ?_; rintro e w3 ⟨rfl, rfl⟩))
    refine wp_loop_rounds 1 ?_
    rw [rounds_succ]
    go_wp2
    go_ret
    exact ⟨rfl, hb2⟩
end Go.Proofs.YtdlacmfejlmpdabDoor
