/-
 The law CountTwice answers true of at most forty entries, none too long, and a sheet that is not too long, in every memory in which the errors are laid; nothing
-/
import Derived.Test.YtppodkkefegbkaaGreatDoorJz15
import Derived.Test.YtppodkkefegbkaaGreatDoorJz25
import Derived.Test.YtppodkkefegbkaaGreatDoorQOf
import Derived.Test.YtppodkkefegbkaaGreatDoorJz26
import Derived.Test.YtppodkkefegbkaaGreatDoorJz29
import Derived.Test.YtppodkkefegbkaaGreatDoorJz6
import Derived.Lib.QuietBelow
import Derived.BigQuiet
import Derived.Test.YtppodkkefegbkaaGreatDoorJz12
import Derived.Test.YtppodkkefegbkaaGreatDoorJz4
import Derived.Deep.CutRange
set_option maxRecDepth 100000
set_option maxHeartbeats 16000000
namespace Go.Proofs.YtppodkkefegbkaaGreatDoor
open Go.RowKit Go.Lib Go.Sort
theorem counted_any {s : Nat → Addr} (C : CountK s) (w : World) (hs : Sent w s) : Calls Tryz.prog 6 #[] w fun e w' => e = .returned (.bool true) ∧ Below w.heap.size w w' := by
 have HC : Hid (∀ W q, Below w.heap.size w W → LineAt W q 0 ((⟨#[97]⟩, 1, 1), ⟨#[108, 49]⟩, 5) → Calls Tryz.prog 15 #[.slice (some ⟨q, 0, none⟩) 1 1] W fun e w' => e = .returned .nilIface ∧ Below W.heap.size W w') := fun W q hb hl => (C.check W (some ⟨q, 0, none⟩) [((⟨#[97]⟩, 1, 1), ⟨#[108, 49]⟩, 5)] 1 (hs.below hb) (Or.inr ⟨q, 0, rfl, hl.lt, fun k x hx => by
   cases k with
   | zero => cases hx; exact hl
   | succ k => simp at hx⟩) (by decide) (by decide) (fun x hx => by
   rw [List.mem_singleton.1 hx]
   exact ⟨by show (1 : Nat) ≤ maxLen; unfold maxLen; decide, by show (2 : Nat) ≤ maxLen; unfold maxLen; decide⟩)).mono fun e w' ⟨h1, h2⟩ => by
  rcases h1 with ⟨_, h3⟩ | ⟨k, hk, _, hne, _⟩
  ·exact ⟨h3, h2⟩
  ·obtain rfl : k = 0 := by simp at hk; omega
   exact absurd own_sheet hne
 have HD1 : Hid (∀ W, Calls Tryz.prog 17 #[.string ⟨#[97]⟩, .int .i64 0, .int .i64 30] W fun e w' => e = .returned (.bool true) ∧ Below W.heap.size W w') := fun W => by
  have := C.due W clA 0 30 ⟨by decide, by decide⟩ ⟨by decide, by decide⟩
  rw [due_own.1] at this
  exact this
 have HD2 : Hid (∀ W, Calls Tryz.prog 17 #[.string ⟨#[97]⟩, .int .i64 0, .int .i64 29] W fun e w' => e = .returned (.bool false) ∧ Below W.heap.size W w') := fun W => by
  have := C.due W clA 0 29 ⟨by decide, by decide⟩ ⟨by decide, by decide⟩
  rw [due_own.2] at this
  exact this
 clear C hs
 obtain ⟨U1, hU1⟩ : ∃ U1, w.alloc (.cells #[.string ⟨#[97]⟩, .int .i64 1, .int .i64 1] 41) = U1 := ⟨_, rfl⟩
 have hb1 : Below w.heap.size w U1 := hU1 ▸ (Below.refl _ w).alloc (Nat.le_refl _) _
 have k0 : U1.cell? ⟨w.heap.size, 0, none⟩ = some (.string ⟨#[97]⟩) := by rw [← hU1, World.cell?_alloc_at _ _ _ _ rfl]; rfl
 have k1 : U1.cell? ⟨w.heap.size, 1, none⟩ = some (.int .i64 1) := by rw [← hU1, World.cell?_alloc_at _ _ _ _ rfl]; rfl
 have k2 : U1.cell? ⟨w.heap.size, 2, none⟩ = some (.int .i64 1) := by rw [← hU1, World.cell?_alloc_at _ _ _ _ rfl]; rfl
 obtain ⟨U2, hU2⟩ : ∃ U2, U1.alloc (.cells #[.string ⟨#[97]⟩, .int .i64 1, .int .i64 1, .string ⟨#[108, 49]⟩, .int .i64 5] 48) = U2 := ⟨_, rfl⟩
 have hl2 : LineAt U2 U1.heap.size 0 ((⟨#[97]⟩, 1, 1), ⟨#[108, 49]⟩, 5) := hU2 ▸ LineAt.new U1 (((⟨#[97]⟩, 1, 1), ⟨#[108, 49]⟩, 5) : Ln) _ _ rfl
 have hb2 : Below w.heap.size w U2 := hU2 ▸ hb1.alloc hb1.size _
 have HCk : Hid (Calls Tryz.prog 15 _ U2 _) := HC.out U2 _ hb2 hl2
 have HB2 : Hid (Below w.heap.size w U2) := hb2
 clear hb1 hb2 hl2
 go_enter Tryz.func6, Tryz.ntmps6
 go_wp2_with (first
  | (go_at_call 15; refine HCk.out.mono ?_; rintro r w3 ⟨rfl, hb3⟩; have HB3 : Hid (Below w.heap.size w w3) := HB2.out.trans (hb3.mono HB2.out.size); clear hb3)
  | (go_at_call 17; refine (HD1.out _).mono ?_; clear HD1; rintro r w4 ⟨rfl, hb4⟩; have HB4 : Hid (Below w.heap.size w w4) := HB3.out.trans (hb4.mono HB3.out.size); clear hb4)
  | (go_at_call 17; refine (HD2.out _).mono ?_; rintro r w5 ⟨rfl, hb5⟩; have HB5 : Hid (Below w.heap.size w w5) := HB4.out.trans (hb5.mono HB4.out.size); clear hb5))
 go_ret
 exact ⟨rfl, HB5.out⟩
structure Bx (w : World) (x : Bl) (Bq q : Nat) (b : Bk) (W : World) : Prop where
 X : IsBk W w.heap.size x b
 R : RefB W Bq q b
 B : Below w.heap.size w W
theorem Bx.on {w : World} {x : Bl} {Bq q : Nat} {b : Bk} {W W' : World} (h : Bx w x Bq q b W) (hb : Below W.heap.size W W') : Bx w x Bq q b W' := ⟨h.X.below hb, h.R.below hb, h.B.trans (hb.mono h.B.size)⟩
theorem encS_txs {w : World} {B : Nat} {v : Value} {m : List ByteArray} (h : encS.Row w B 9 v m) : ∃ p c, v = .slice p m.length c ∧ Txs w p m := by
 rcases h.forms with ⟨rfl, h0⟩ | ⟨g, cap, rfl, _, _, _, _, hc⟩
 ·exact ⟨none, 0, by rw [h0]; rfl, fun i s hi => by rw [h0] at hi; simp at hi⟩
 ·refine ⟨some ⟨g, 0, none⟩, cap, rfl, fun i s hi => ⟨g, 0, rfl, ?_⟩⟩
  have := hc i s 0 hi (by decide)
  rw [show i * encS.k + 0 = 0 + i by show i * 1 + 0 = _; omega] at this
  exact this
theorem faulted2_nil (w : World) : Calls Tryz.prog 14 #[.nilIface, .agg #[.int .i64 0, .int .i64 (-1)]] w fun e w' => e = .returned (.bool true) ∧ Below w.heap.size w w' := by
 have hB : Below w.heap.size w (w.alloc (.cells #[.int .i64 0, .int .i64 (-1)] 53)) := (Below.refl _ w).alloc (Nat.le_refl _) _
 have k0 : (w.alloc (.cells #[.int .i64 0, .int .i64 (-1)] 53)).cell? ⟨w.heap.size, 0, none⟩ = some (.int .i64 0) := by rw [World.cell?_alloc_at _ _ _ _ rfl]; rfl
 have k1 : (w.alloc (.cells #[.int .i64 0, .int .i64 (-1)] 53)).cell? ⟨w.heap.size, 1, none⟩ = some (.int .i64 (-1)) := by rw [World.cell?_alloc_at _ _ _ _ rfl]; rfl
 have HC : Hid (∀ W, Calls Tryz.prog 40 #[.nilIface] W _) := fun W => code_nil W
 have HB : Hid (Below _ _ _) := hB
 clear hB
 go_enter Tryz.func14, Tryz.ntmps14
 go_wp2_with (go_at_call 40; refine (HC.out _).mono ?_; rintro e w1 ⟨rfl, hw1⟩; have hw1' := hw1.symm; subst hw1')
 go_ret
 exact ⟨rfl, HB.out⟩
theorem faulted_cells {s : Nat → Addr} {w W : World} (hs : Sent w s) (hh : Handle w) (hb : Below w.heap.size w W) {a k E : Nat} (hE : 0 < E) (hE12 : E ≤ 12) (h0 : W.cell? ⟨a, 0, none⟩ = some (.int .i64 k)) (h1 : W.cell? ⟨a, 1, none⟩ = some (err (s (E - 1)))) : Calls Tryz.prog 14 #[.iface 83 (.pointer (some ⟨a, 0, none⟩)), .agg #[.int .i64 E, .int .i64 k]] W fun e w' => e = .returned (.bool true) ∧ Below W.heap.size W w' :=
 faulted2_of _ E k W (by omega) fun w1 hb1 => by
  have h9 := code_fault_sent a 0 k (E - 1) (by omega) w1 s ((hs.below hb).below hb1) ((hh.below hb).below hb1) ((hb1.cell (p := ⟨a, 0, none⟩) (cell_lt h0)).trans h0) ((hb1.cell (p := ⟨a, 1, none⟩) (cell_lt h1)).trans h1)
  rw [show E - 1 + 1 = E by omega] at h9
  exact h9
theorem sameE_self (e : En) : sameE e e = true := by unfold sameE; simp
def nearE (most : Int) (es : List En) (k : Nat) : Bool := closeE most (es.take k)
theorem nearE_succ {most : Int} {es : List En} {k : Nat} {e : En} (h : es[k]? = some e) : nearE most es (k + 1) = (nearE most es k && decide (e.2.2.2.2.2 ≤ most)) := by
 unfold nearE closeE
 rw [List.take_add_one, h, List.all_append]
 simp
theorem countDiffs_sheet {s : Nat → Addr} (K : CountK s) (D : CountD s) (C : CountC s) (X : CountX s) (pp : Option Addr) (l : List En) (cap : Nat) (qq : Option Addr) (sh : List Ln) (cap2 : Nat) (most : Int) (cl : ByteArray) (last day : Int) (hla : In64 last) (hda : In64 day) (w : World) (hs : Sent w s) (hh : Handle w) (hz : ∀ e ∈ l, SzE e) (hr : l = [] ∨ ∃ bq off, pp = some ⟨bq, off, none⟩ ∧ Ents w bq off l) (h40 : l.length ≤ 40) (hno : longs l = false) (hq : ShIn w qq sh) (hcap : sh.length ≤ cap2) (h30 : sh.length ≤ 30) (hqz : ∀ x ∈ sh, SzL x) (hql : longsL sh = false) (hcl : cl.size ≤ 20) {k : Nat} (hk : k < sh.length) (hbe : ∀ j, j < k → sheetE sh j = 0) (hne : sheetE sh k ≠ 0) :
  Calls Tryz.prog 4 #[.slice pp l.length cap, .slice qq sh.length cap2, .int .i64 most, .string cl, .int .i64 last, .int .i64 day] w fun r w' => r = .returned (.bool true) ∧ Below w.heap.size w w' := by
 have HCo : Hid (Calls Tryz.prog 6 _ _ _) := counted_any K w hs
 have HLg : Hid (∀ W, Below w.heap.size w W → Calls Tryz.prog 7 #[.slice pp l.length cap, .int .i64 40] W _) := longs_zero hz hr h40 hno
 have HLs : Hid (∀ W, Below w.heap.size w W → Calls Tryz.prog 8 #[.slice qq sh.length cap2] W fun r w' => r = .returned (.int .i64 0) ∧ w' = W) := fun W hb => by
  have := lsheet_any qq sh cap2 W (hq.on hb) h30 hqz
  rw [show longN sh = 0 by unfold longN; rw [hql]; rfl] at this
  exact this
 have HOf : Hid (∀ W, Below w.heap.size w W → Calls Tryz.prog 9 #[.slice pp l.length cap] W fun e w' => ∃ x Bq q, e = .returned (.tuple #[.pointer (some ⟨x.p, 0, none⟩), .pointer (some ⟨q, 0, none⟩), .bool true]) ∧ Bx w x Bq q (bkTo l l.length) w') := fun W hb =>
  (bookOf_any pp l cap W s (hs.below hb) (hh.below hb) hz (ents_on hr hb) (by omega)).mono fun r w' ⟨x, Bq, q, h1, h2⟩ => ⟨x, Bq, q, h1, h2.prog.mono hb.size, h2.ref, hb.trans (h2.below.mono hb.size)⟩
 have HDu : Hid (∀ W, Calls Tryz.prog 17 #[.string cl, .int .i64 last, .int .i64 day] W fun e w' => e = .returned (.bool (dueC cl last day)) ∧ Below W.heap.size W w') := fun W => K.due W cl last day hla hda
 have HIu : Hid (∀ W, Calls Tryz.prog 18 #[.string cl, .int .i64 last, .int .i64 day] W fun e w' => e = .returned (.bool (dueC cl last day)) ∧ w' = W) := fun W => due_any cl last day W
 have hok := bkTo_ok l l.length
 generalize bkTo l l.length = b at *
 have hg30 := hok.wf.gl
 have HCl : Hid (∀ W x Bq q, Bx w x Bq q b W → Calls Tryz.prog 20 #[.pointer (some ⟨x.p, 0, none⟩)] W fun e w' => (∃ p c, e = .returned (.slice p b.1.length c) ∧ Txs w' p (classesG b.1 b.1.length)) ∧ Below W.heap.size W w') := fun W x Bq q h => C.classes W _ x b h.X
 have HCr : Hid (∀ W x Bq q, Bx w x Bq q b W → Calls Tryz.prog 21 #[.pointer (some ⟨q, 0, none⟩)] W fun e w' => (∃ p c, e = .returned (.slice p b.1.length c) ∧ Txs w' p (classesG b.1 b.1.length)) ∧ Below W.heap.size W w') := fun W x Bq q h => (rclasses_any W Bq q b h.R hok.wf).mono fun e w' ⟨v, h1, h2, h3⟩ => by
  obtain ⟨p, c, rfl, h4⟩ := encS_txs h2
  rw [classesG_len b.1 (Nat.le_refl _)] at h1
  exact ⟨⟨p, c, h1, h4⟩, h3⟩
 have HTx : Hid (∀ W p1 p2 c1 c2, Txs W p1 (classesG b.1 b.1.length) → Txs W p2 (classesG b.1 b.1.length) → Calls Tryz.prog 19 #[.slice p1 b.1.length c1, .slice p2 b.1.length c2] W fun e w' => e = .returned (.bool true) ∧ Below W.heap.size W w') := fun W p1 p2 c1 c2 h1 h2 => by
  have hl := classesG_len b.1 (Nat.le_refl b.1.length)
  have := texts_one p1 p2 _ _ c1 c2 W h1 h2 rfl (by rw [hl]; omega)
  rw [hl, decide_eq_true rfl] at this
  exact this
 have HCn : Hid (∀ W, Calls Tryz.prog 20 #[.pointer none] W fun e w' => (∃ p c, e = .returned (.slice p 0 c)) ∧ Below W.heap.size W w') := X.classesN
 have HDn : Hid (∀ W, Below w.heap.size w W → Calls Tryz.prog 10 #[.pointer none, .slice qq sh.length cap2] W fun e w' => (∃ p c, e = .returned (.tuple #[.slice p 0 c, err (s 2)])) ∧ Below W.heap.size W w') := fun W hb => X.diffN W qq sh cap2 (hs.below hb) (hq.on hb) hcap h30 hqz
 have HCd : Hid (∀ W, Below w.heap.size w W → Calls Tryz.prog 23 #[err (s 2), .int .i64 3] W fun e w' => e = .returned (.bool true) ∧ Below W.heap.size W w') := fun W hb => coded_sent2 2 (by decide) 3 rfl W s (hs.below hb) (hh.below hb)
 have hE12 := sheetE_le sh k
 have hEp : 0 < sheetE sh k := Nat.pos_of_ne_zero hne
 have HCk : Hid (∀ W, Below w.heap.size w W → Calls Tryz.prog 15 #[.slice qq sh.length cap2] W fun e w' => (∃ a, e = .returned (.iface 83 (.pointer (some ⟨a, 0, none⟩))) ∧ w'.cell? ⟨a, 0, none⟩ = some (.int .i64 k) ∧ w'.cell? ⟨a, 1, none⟩ = some (err (s (sheetE sh k - 1)))) ∧ Below W.heap.size W w') := fun W hb => (K.check W qq sh cap2 (hs.below hb) (hq.on hb) hcap h30 hqz).mono fun e w' ⟨h1, h2⟩ => by
  rcases h1 with ⟨h3, _⟩ | ⟨k', hk', hb', hne', v, h4, a, rfl, h5, h6⟩
  ·exact absurd (h3 k hk) hne
  ·obtain rfl := first_same hbe hne hb' hne'
   exact ⟨⟨a, h4, h5, h6⟩, h2⟩
 have HSh : Hid (∀ W, Below w.heap.size w W → Calls Tryz.prog 16 #[.slice qq sh.length cap2] W fun e w' => e = .returned (.agg #[.int .i64 (sheetE sh k), .int .i64 k]) ∧ Below W.heap.size W w') := fun W hb => (sheet_any qq sh cap2 W (hq.on hb) (by omega) hqz).mono fun e w' ⟨h1, h2⟩ => by
  rcases h1 with ⟨h3, _⟩ | ⟨k', hk', hb', hne', h4⟩
  ·exact absurd (h3 k hk) hne
  ·obtain rfl := first_same hbe hne hb' hne'
   exact ⟨h4, h2⟩
 have HDf : Hid (∀ W x Bq q, Bx w x Bq q b W → Calls Tryz.prog 10 #[.pointer (some ⟨x.p, 0, none⟩), .slice qq sh.length cap2] W fun e w' => (∃ p c a, e = .returned (.tuple #[.slice p 0 c, .iface 83 (.pointer (some ⟨a, 0, none⟩))]) ∧ w'.cell? ⟨a, 0, none⟩ = some (.int .i64 k) ∧ w'.cell? ⟨a, 1, none⟩ = some (err (s (sheetE sh k - 1)))) ∧ Below W.heap.size W w') := fun W x Bq q h => (D.diff W _ x b qq sh cap2 (hs.below h.B) h.X (hq.on h.B) hcap h30 hqz).mono fun e w' ⟨h1, h2⟩ => by
  rcases h1 with ⟨k', hk', hb', hne', p, c, v, h4, a, rfl, h5, h6⟩ | ⟨h3, _⟩ | ⟨h3, _⟩
  ·obtain rfl := first_same hbe hne hb' hne'
   exact ⟨⟨p, c, a, h4, h5, h6⟩, h2⟩
  ·exact absurd (h3 k hk) hne
  ·exact absurd (h3 k hk) hne
 have HDr : Hid (∀ W x Bq q, Bx w x Bq q b W → Calls Tryz.prog 22 #[.pointer (some ⟨q, 0, none⟩), .slice qq sh.length cap2] W fun e w' => e = .returned (.tuple #[.slice none 0 0, .agg #[.int .i64 (sheetE sh k), .int .i64 k]]) ∧ Below W.heap.size W w') := fun W x Bq q h => (rdiff_any qq sh cap2 W Bq q b (hq.on h.B) h.R hok.wf (by omega) hqz).mono fun e w' ⟨h1, h2⟩ => by
  rcases h1 with ⟨k', hk', hb', hne', h4⟩ | ⟨h3, _⟩ | ⟨h3, _⟩
  ·obtain rfl := first_same hbe hne hb' hne'
   exact ⟨h4, h2⟩
  ·exact absurd (h3 k hk) hne
  ·exact absurd (h3 k hk) hne
 generalize sheetE sh k = E at *
 have HFc : Hid (∀ W a, Below w.heap.size w W → W.cell? ⟨a, 0, none⟩ = some (.int .i64 k) → W.cell? ⟨a, 1, none⟩ = some (err (s (E - 1))) → Calls Tryz.prog 14 #[.iface 83 (.pointer (some ⟨a, 0, none⟩)), .agg #[.int .i64 E, .int .i64 k]] W fun e w' => e = .returned (.bool true) ∧ Below W.heap.size W w') := fun W a hb h0 h1 => faulted_cells hs hh hb hEp hE12 h0 h1
 have z1 : (0 : Int) < (E : Int) := by omega
 have z2 : (cl.size : Int) ≤ 20 := by omega
 have hdd : ((dueC cl last day) == (dueC cl last day)) = true := by simp
 generalize dueC cl last day = dd at *
 generalize sh.length = ln at *
 generalize l.length = le at *
 clear K D C X hla hda hcap hs hh hz hr hno hq hqz hql hok hk hbe hne hE12 hEp
 go_enter Tryz.func4, Tryz.ntmps4
 go_wp2_with (first
  | (go_at_call 6; refine HCo.out.mono ?_; rintro r w1 ⟨rfl, hb1⟩; have HB1 : Hid (Below w.heap.size w w1) := hb1; clear hb1)
  | (go_at_call 7; refine (HLg.out _ HB1.out).mono ?_; rintro r w2 ⟨rfl, hb2⟩; have HB2 : Hid (Below w.heap.size w w2) := HB1.out.trans (hb2.mono HB1.out.size); clear hb2)
  | (go_at_call 8; refine (HLs.out _ HB2.out).mono ?_; rintro r w3 ⟨rfl, hw3⟩; have hw3' := hw3.symm; subst hw3')
  | (go_at_call 9; refine (HOf.out _ HB2.out).mono ?_; rintro r w4 ⟨x, Bq, q, rfl, hx4⟩; have H4 : Hid (Bx w x Bq q b w4) := hx4; clear hx4)
  | (go_at_call 15; refine (HCk.out _ H4.out.B).mono ?_; rintro r w5 ⟨⟨a1, rfl, f0, f1⟩, hb5⟩; have H5 : Hid (Bx w x Bq q b w5) := H4.out.on hb5; have F0 : Hid (w5.cell? ⟨a1, 0, none⟩ = _) := f0; have F1 : Hid (w5.cell? ⟨a1, 1, none⟩ = _) := f1; clear f0 f1 hb5)
  | (go_at_call 16; refine (HSh.out _ H5.out.B).mono ?_; rintro r w6 ⟨rfl, hb6⟩; have H6 : Hid (Bx w x Bq q b w6) := H5.out.on hb6; have HFa1 : Hid (Calls Tryz.prog 14 _ w6 _) := HFc.out w6 a1 H6.out.B ((hb6.cell (p := ⟨a1, 0, none⟩) (cell_lt F0.out)).trans F0.out) ((hb6.cell (p := ⟨a1, 1, none⟩) (cell_lt F1.out)).trans F1.out); clear hb6)
  | (go_at_call 14; refine HFa1.out.mono ?_; clear HFa1; rintro r w7 ⟨rfl, hb7⟩; have H7 : Hid (Bx w x Bq q b w7) := H6.out.on hb7; clear hb7)
  | (go_at_call 17; refine (HDu.out _).mono ?_; rintro r w8 ⟨rfl, hb8⟩; have H8 : Hid (Bx w x Bq q b w8) := H7.out.on hb8; clear hb8)
  | (go_at_call 18; refine (HIu.out _).mono ?_; rintro r w9 ⟨rfl, hw9⟩; have hw9' := hw9.symm; subst hw9')
  | (go_at_call 20; refine (HCl.out _ _ _ _ H8.out).mono ?_; clear HCl; rintro r wa ⟨⟨p1, c1, rfl, hta⟩, hba⟩; have Ha : Hid (Bx w x Bq q b wa) := H8.out.on hba; have HTa : Hid (Txs wa p1 (classesG b.1 b.1.length)) := hta; clear hta hba)
  | (go_at_call 21; refine (HCr.out _ _ _ _ Ha.out).mono ?_; rintro r wb ⟨⟨p2, c2, rfl, htb⟩, hbb⟩; have Hb : Hid (Bx w x Bq q b wb) := Ha.out.on hbb; have HSt : Hid (Calls Tryz.prog 19 _ wb _) := HTx.out wb p1 p2 c1 c2 (HTa.out.below hbb) htb; clear htb hbb)
  | (go_at_call 19; refine HSt.out.mono ?_; rintro r wc ⟨rfl, hbc⟩; have Hc : Hid (Bx w x Bq q b wc) := Hb.out.on hbc; clear hbc)
  | (go_at_call 20; refine (HCn.out _).mono ?_; rintro r wd ⟨⟨p3, c3, rfl⟩, hbd⟩; have Hd : Hid (Bx w x Bq q b wd) := Hc.out.on hbd; clear hbd)
  | (go_at_call 10; refine (HDf.out _ _ _ _ Hd.out).mono ?_; clear HDf; rintro r we ⟨⟨p4, c4, a2, rfl, f2, f3⟩, hbe⟩; have He : Hid (Bx w x Bq q b we) := Hd.out.on hbe; have F2 : Hid (we.cell? ⟨a2, 0, none⟩ = _) := f2; have F3 : Hid (we.cell? ⟨a2, 1, none⟩ = _) := f3; clear f2 f3 hbe)
  | (go_at_call 22; refine (HDr.out _ _ _ _ He.out).mono ?_; rintro r wf ⟨rfl, hbf⟩; have nf := heap_alloc_new wf (.cells #[.int .i64 E, .int .i64 k] 53); have hbf' : Below we.heap.size we (wf.alloc (.cells #[.int .i64 E, .int .i64 k] 53)) := hbf.alloc hbf.size _; obtain ⟨Wf, hWf⟩ : ∃ Wf, wf.alloc (.cells #[.int .i64 E, .int .i64 k] 53) = Wf := ⟨_, rfl⟩; rw [hWf] at nf hbf'; have Hf : Hid (Bx w x Bq q b Wf) := He.out.on hbf'; have NF : Hid (Wf.heap[wf.heap.size]? = _) := nf; have F4 : Hid (Wf.cell? ⟨a2, 0, none⟩ = _) := (hbf'.cell (p := ⟨a2, 0, none⟩) (cell_lt F2.out)).trans F2.out; have F5 : Hid (Wf.cell? ⟨a2, 1, none⟩ = _) := (hbf'.cell (p := ⟨a2, 1, none⟩) (cell_lt F3.out)).trans F3.out; clear nf hbf hbf')
  | (go_at_call 10; refine (HDn.out _ Hf.out.B).mono ?_; rintro r wg ⟨⟨p5, c5, rfl⟩, hbg⟩; have Hg : Hid (Bx w x Bq q b wg) := Hf.out.on hbg; have NG : Hid (wg.heap[wf.heap.size]? = _) := (hbg.block _ (Array.getElem?_eq_some_iff.1 NF.out).1).trans NF.out; have F6 : Hid (wg.cell? ⟨a2, 0, none⟩ = _) := (hbg.cell (p := ⟨a2, 0, none⟩) (cell_lt F4.out)).trans F4.out; have F7 : Hid (wg.cell? ⟨a2, 1, none⟩ = _) := (hbg.cell (p := ⟨a2, 1, none⟩) (cell_lt F5.out)).trans F5.out; clear hbg)
  | (go_at_call 23; refine (HCd.out _ Hg.out.B).mono ?_; rintro r wh ⟨rfl, hbh⟩; have Hh : Hid (Bx w x Bq q b wh) := Hg.out.on hbh; have nh := (hbh.block _ (Array.getElem?_eq_some_iff.1 NG.out).1).trans NG.out; have t0 : wh.cell? ⟨wf.heap.size, 0, none⟩ = some (.int .i64 E) := (by rw [cell_of_heap nh]; rfl); have t1 : wh.cell? ⟨wf.heap.size, 1, none⟩ = some (.int .i64 k) := (by rw [cell_of_heap nh]; rfl); have HFa2 : Hid (Calls Tryz.prog 14 _ wh _) := HFc.out wh a2 Hh.out.B ((hbh.cell (p := ⟨a2, 0, none⟩) (cell_lt F6.out)).trans F6.out) ((hbh.cell (p := ⟨a2, 1, none⟩) (cell_lt F7.out)).trans F7.out); clear nh hbh)
  | (go_at_call 14; refine HFa2.out.mono ?_; rintro r wi ⟨rfl, hbi⟩; have Hi : Hid (Bx w x Bq q b wi) := Hh.out.on hbi; clear hbi))
 go_ret
 exact ⟨rfl, Hi.out.B⟩
theorem countDiffs_lot {s : Nat → Addr} (K : CountK s) (D : CountD s) (C : CountC s) (X : CountX s) (pp : Option Addr) (l : List En) (cap : Nat) (qq : Option Addr) (sh : List Ln) (cap2 : Nat) (most : Int) (cl : ByteArray) (last day : Int) (hla : In64 last) (hda : In64 day) (w : World) (hs : Sent w s) (hh : Handle w) (hz : ∀ e ∈ l, SzE e) (hr : l = [] ∨ ∃ bq off, pp = some ⟨bq, off, none⟩ ∧ Ents w bq off l) (h40 : l.length ≤ 40) (hno : longs l = false) (hq : ShIn w qq sh) (hcap : sh.length ≤ cap2) (h30 : sh.length ≤ 30) (hqz : ∀ x ∈ sh, SzL x) (hql : longsL sh = false) (hcl : cl.size ≤ 20) (hg1 : ∀ j, j < sh.length → sheetE sh j = 0) {k : Nat} (hk : k < sh.length) (hbe : ∀ j, j < k → noneS (bkTo l l.length) sh j = 0) (hne : noneS (bkTo l l.length) sh k ≠ 0) :
  Calls Tryz.prog 4 #[.slice pp l.length cap, .slice qq sh.length cap2, .int .i64 most, .string cl, .int .i64 last, .int .i64 day] w fun r w' => r = .returned (.bool true) ∧ Below w.heap.size w w' := by
 have HCo : Hid (Calls Tryz.prog 6 _ _ _) := counted_any K w hs
 have HLg : Hid (∀ W, Below w.heap.size w W → Calls Tryz.prog 7 #[.slice pp l.length cap, .int .i64 40] W _) := longs_zero hz hr h40 hno
 have HLs : Hid (∀ W, Below w.heap.size w W → Calls Tryz.prog 8 #[.slice qq sh.length cap2] W fun r w' => r = .returned (.int .i64 0) ∧ w' = W) := fun W hb => by
  have := lsheet_any qq sh cap2 W (hq.on hb) h30 hqz
  rw [show longN sh = 0 by unfold longN; rw [hql]; rfl] at this
  exact this
 have HOf : Hid (∀ W, Below w.heap.size w W → Calls Tryz.prog 9 #[.slice pp l.length cap] W fun e w' => ∃ x Bq q, e = .returned (.tuple #[.pointer (some ⟨x.p, 0, none⟩), .pointer (some ⟨q, 0, none⟩), .bool true]) ∧ Bx w x Bq q (bkTo l l.length) w') := fun W hb =>
  (bookOf_any pp l cap W s (hs.below hb) (hh.below hb) hz (ents_on hr hb) (by omega)).mono fun r w' ⟨x, Bq, q, h1, h2⟩ => ⟨x, Bq, q, h1, h2.prog.mono hb.size, h2.ref, hb.trans (h2.below.mono hb.size)⟩
 have HDu : Hid (∀ W, Calls Tryz.prog 17 #[.string cl, .int .i64 last, .int .i64 day] W fun e w' => e = .returned (.bool (dueC cl last day)) ∧ Below W.heap.size W w') := fun W => K.due W cl last day hla hda
 have HIu : Hid (∀ W, Calls Tryz.prog 18 #[.string cl, .int .i64 last, .int .i64 day] W fun e w' => e = .returned (.bool (dueC cl last day)) ∧ w' = W) := fun W => due_any cl last day W
 have hok := bkTo_ok l l.length
 generalize bkTo l l.length = b at *
 have hg30 := hok.wf.gl
 have HCl : Hid (∀ W x Bq q, Bx w x Bq q b W → Calls Tryz.prog 20 #[.pointer (some ⟨x.p, 0, none⟩)] W fun e w' => (∃ p c, e = .returned (.slice p b.1.length c) ∧ Txs w' p (classesG b.1 b.1.length)) ∧ Below W.heap.size W w') := fun W x Bq q h => C.classes W _ x b h.X
 have HCr : Hid (∀ W x Bq q, Bx w x Bq q b W → Calls Tryz.prog 21 #[.pointer (some ⟨q, 0, none⟩)] W fun e w' => (∃ p c, e = .returned (.slice p b.1.length c) ∧ Txs w' p (classesG b.1 b.1.length)) ∧ Below W.heap.size W w') := fun W x Bq q h => (rclasses_any W Bq q b h.R hok.wf).mono fun e w' ⟨v, h1, h2, h3⟩ => by
  obtain ⟨p, c, rfl, h4⟩ := encS_txs h2
  rw [classesG_len b.1 (Nat.le_refl _)] at h1
  exact ⟨⟨p, c, h1, h4⟩, h3⟩
 have HTx : Hid (∀ W p1 p2 c1 c2, Txs W p1 (classesG b.1 b.1.length) → Txs W p2 (classesG b.1 b.1.length) → Calls Tryz.prog 19 #[.slice p1 b.1.length c1, .slice p2 b.1.length c2] W fun e w' => e = .returned (.bool true) ∧ Below W.heap.size W w') := fun W p1 p2 c1 c2 h1 h2 => by
  have hl := classesG_len b.1 (Nat.le_refl b.1.length)
  have := texts_one p1 p2 _ _ c1 c2 W h1 h2 rfl (by rw [hl]; omega)
  rw [hl, decide_eq_true rfl] at this
  exact this
 have HCn : Hid (∀ W, Calls Tryz.prog 20 #[.pointer none] W fun e w' => (∃ p c, e = .returned (.slice p 0 c)) ∧ Below W.heap.size W w') := X.classesN
 have HDn : Hid (∀ W, Below w.heap.size w W → Calls Tryz.prog 10 #[.pointer none, .slice qq sh.length cap2] W fun e w' => (∃ p c, e = .returned (.tuple #[.slice p 0 c, err (s 2)])) ∧ Below W.heap.size W w') := fun W hb => X.diffN W qq sh cap2 (hs.below hb) (hq.on hb) hcap h30 hqz
 have HCd : Hid (∀ W, Below w.heap.size w W → Calls Tryz.prog 23 #[err (s 2), .int .i64 3] W fun e w' => e = .returned (.bool true) ∧ Below W.heap.size W w') := fun W hb => coded_sent2 2 (by decide) 3 rfl W s (hs.below hb) (hh.below hb)
 have HCk : Hid (∀ W, Below w.heap.size w W → Calls Tryz.prog 15 #[.slice qq sh.length cap2] W fun e w' => e = .returned .nilIface ∧ Below W.heap.size W w') := fun W hb => (K.check W qq sh cap2 (hs.below hb) (hq.on hb) hcap h30 hqz).mono fun e w' ⟨h1, h2⟩ => by
  rcases h1 with ⟨_, h3⟩ | ⟨k', hk', _, hne', _⟩
  ·exact ⟨h3, h2⟩
  ·exact absurd (hg1 k' hk') hne'
 have HSh : Hid (∀ W, Below w.heap.size w W → Calls Tryz.prog 16 #[.slice qq sh.length cap2] W fun e w' => e = .returned (.agg #[.int .i64 0, .int .i64 (-1)]) ∧ Below W.heap.size W w') := fun W hb => (sheet_any qq sh cap2 W (hq.on hb) (by omega) hqz).mono fun e w' ⟨h1, h2⟩ => by
  rcases h1 with ⟨_, h3⟩ | ⟨k', hk', _, hne', _⟩
  ·exact ⟨h3, h2⟩
  ·exact absurd (hg1 k' hk') hne'
 have HDf : Hid (∀ W x Bq q, Bx w x Bq q b W → Calls Tryz.prog 10 #[.pointer (some ⟨x.p, 0, none⟩), .slice qq sh.length cap2] W fun e w' => (∃ p c a, e = .returned (.tuple #[.slice p 0 c, .iface 83 (.pointer (some ⟨a, 0, none⟩))]) ∧ w'.cell? ⟨a, 0, none⟩ = some (.int .i64 k) ∧ w'.cell? ⟨a, 1, none⟩ = some (err (s (6 - 1)))) ∧ Below W.heap.size W w') := fun W x Bq q h => (D.diff W _ x b qq sh cap2 (hs.below h.B) h.X (hq.on h.B) hcap h30 hqz).mono fun e w' ⟨h1, h2⟩ => by
  rcases h1 with ⟨k', hk', _, hne', _⟩ | ⟨_, k', hk', hb', hne', p, c, v, h4, a, rfl, h5, h6⟩ | ⟨_, h3, _⟩
  ·exact absurd (hg1 k' hk') hne'
  ·obtain rfl := first_same hbe hne hb' hne'
   exact ⟨⟨p, c, a, h4, h5, h6⟩, h2⟩
  ·exact absurd (h3 k hk) hne
 have HDr : Hid (∀ W x Bq q, Bx w x Bq q b W → Calls Tryz.prog 22 #[.pointer (some ⟨q, 0, none⟩), .slice qq sh.length cap2] W fun e w' => e = .returned (.tuple #[.slice none 0 0, .agg #[.int .i64 6, .int .i64 k]]) ∧ Below W.heap.size W w') := fun W x Bq q h => (rdiff_any qq sh cap2 W Bq q b (hq.on h.B) h.R hok.wf (by omega) hqz).mono fun e w' ⟨h1, h2⟩ => by
  rcases h1 with ⟨k', hk', _, hne', _⟩ | ⟨_, k', hk', hb', hne', h4⟩ | ⟨_, h3, _⟩
  ·exact absurd (hg1 k' hk') hne'
  ·obtain rfl := first_same hbe hne hb' hne'
   exact ⟨h4, h2⟩
  ·exact absurd (h3 k hk) hne
 have HFc : Hid (∀ W a, Below w.heap.size w W → W.cell? ⟨a, 0, none⟩ = some (.int .i64 k) → W.cell? ⟨a, 1, none⟩ = some (err (s (6 - 1))) → Calls Tryz.prog 14 #[.iface 83 (.pointer (some ⟨a, 0, none⟩)), .agg #[.int .i64 6, .int .i64 k]] W fun e w' => e = .returned (.bool true) ∧ Below W.heap.size W w') := fun W a hb h0 h1 => faulted_cells hs hh hb (E := 6) (by decide) (by decide) h0 h1
 have z2 : (cl.size : Int) ≤ 20 := by omega
 have hdd : ((dueC cl last day) == (dueC cl last day)) = true := by simp
 generalize dueC cl last day = dd at *
 generalize sh.length = ln at *
 generalize l.length = le at *
 clear K D C X hla hda hcap hs hh hz hr hno hq hqz hql hok hg1 hk hbe hne
 go_enter Tryz.func4, Tryz.ntmps4
 go_wp2_with (first
  | (go_at_call 6; refine HCo.out.mono ?_; rintro r w1 ⟨rfl, hb1⟩; have HB1 : Hid (Below w.heap.size w w1) := hb1; clear hb1)
  | (go_at_call 7; refine (HLg.out _ HB1.out).mono ?_; rintro r w2 ⟨rfl, hb2⟩; have HB2 : Hid (Below w.heap.size w w2) := HB1.out.trans (hb2.mono HB1.out.size); clear hb2)
  | (go_at_call 8; refine (HLs.out _ HB2.out).mono ?_; rintro r w3 ⟨rfl, hw3⟩; have hw3' := hw3.symm; subst hw3')
  | (go_at_call 9; refine (HOf.out _ HB2.out).mono ?_; rintro r w4 ⟨x, Bq, q, rfl, hx4⟩; have H4 : Hid (Bx w x Bq q b w4) := hx4; clear hx4)
  | (go_at_call 15; refine (HCk.out _ H4.out.B).mono ?_; rintro r w5 ⟨rfl, hb5⟩; have H5 : Hid (Bx w x Bq q b w5) := H4.out.on hb5; clear hb5)
  | (go_at_call 16; refine (HSh.out _ H5.out.B).mono ?_; rintro r w6 ⟨rfl, hb6⟩; have H6 : Hid (Bx w x Bq q b w6) := H5.out.on hb6; have HFa1 : Hid (Calls Tryz.prog 14 _ w6 _) := faulted2_nil w6; clear hb6)
  | (go_at_call 14; refine HFa1.out.mono ?_; clear HFa1; rintro r w7 ⟨rfl, hb7⟩; have H7 : Hid (Bx w x Bq q b w7) := H6.out.on hb7; clear hb7)
  | (go_at_call 17; refine (HDu.out _).mono ?_; rintro r w8 ⟨rfl, hb8⟩; have H8 : Hid (Bx w x Bq q b w8) := H7.out.on hb8; clear hb8)
  | (go_at_call 18; refine (HIu.out _).mono ?_; rintro r w9 ⟨rfl, hw9⟩; have hw9' := hw9.symm; subst hw9')
  | (go_at_call 20; refine (HCl.out _ _ _ _ H8.out).mono ?_; clear HCl; rintro r wa ⟨⟨p1, c1, rfl, hta⟩, hba⟩; have Ha : Hid (Bx w x Bq q b wa) := H8.out.on hba; have HTa : Hid (Txs wa p1 (classesG b.1 b.1.length)) := hta; clear hta hba)
  | (go_at_call 21; refine (HCr.out _ _ _ _ Ha.out).mono ?_; rintro r wb ⟨⟨p2, c2, rfl, htb⟩, hbb⟩; have Hb : Hid (Bx w x Bq q b wb) := Ha.out.on hbb; have HSt : Hid (Calls Tryz.prog 19 _ wb _) := HTx.out wb p1 p2 c1 c2 (HTa.out.below hbb) htb; clear htb hbb)
  | (go_at_call 19; refine HSt.out.mono ?_; rintro r wc ⟨rfl, hbc⟩; have Hc : Hid (Bx w x Bq q b wc) := Hb.out.on hbc; clear hbc)
  | (go_at_call 20; refine (HCn.out _).mono ?_; rintro r wd ⟨⟨p3, c3, rfl⟩, hbd⟩; have Hd : Hid (Bx w x Bq q b wd) := Hc.out.on hbd; clear hbd)
  | (go_at_call 10; refine (HDf.out _ _ _ _ Hd.out).mono ?_; clear HDf; rintro r we ⟨⟨p4, c4, a2, rfl, f2, f3⟩, hbe⟩; have He : Hid (Bx w x Bq q b we) := Hd.out.on hbe; have F2 : Hid (we.cell? ⟨a2, 0, none⟩ = _) := f2; have F3 : Hid (we.cell? ⟨a2, 1, none⟩ = _) := f3; clear f2 f3 hbe)
  | (go_at_call 22; refine (HDr.out _ _ _ _ He.out).mono ?_; rintro r wf ⟨rfl, hbf⟩; have nf := heap_alloc_new wf (.cells #[.int .i64 6, .int .i64 k] 53); have hbf' : Below we.heap.size we (wf.alloc (.cells #[.int .i64 6, .int .i64 k] 53)) := hbf.alloc hbf.size _; obtain ⟨Wf, hWf⟩ : ∃ Wf, wf.alloc (.cells #[.int .i64 6, .int .i64 k] 53) = Wf := ⟨_, rfl⟩; rw [hWf] at nf hbf'; have Hf : Hid (Bx w x Bq q b Wf) := He.out.on hbf'; have NF : Hid (Wf.heap[wf.heap.size]? = _) := nf; have F4 : Hid (Wf.cell? ⟨a2, 0, none⟩ = _) := (hbf'.cell (p := ⟨a2, 0, none⟩) (cell_lt F2.out)).trans F2.out; have F5 : Hid (Wf.cell? ⟨a2, 1, none⟩ = _) := (hbf'.cell (p := ⟨a2, 1, none⟩) (cell_lt F3.out)).trans F3.out; clear nf hbf hbf')
  | (go_at_call 10; refine (HDn.out _ Hf.out.B).mono ?_; rintro r wg ⟨⟨p5, c5, rfl⟩, hbg⟩; have Hg : Hid (Bx w x Bq q b wg) := Hf.out.on hbg; have NG : Hid (wg.heap[wf.heap.size]? = _) := (hbg.block _ (Array.getElem?_eq_some_iff.1 NF.out).1).trans NF.out; have F6 : Hid (wg.cell? ⟨a2, 0, none⟩ = _) := (hbg.cell (p := ⟨a2, 0, none⟩) (cell_lt F4.out)).trans F4.out; have F7 : Hid (wg.cell? ⟨a2, 1, none⟩ = _) := (hbg.cell (p := ⟨a2, 1, none⟩) (cell_lt F5.out)).trans F5.out; clear hbg)
  | (go_at_call 23; refine (HCd.out _ Hg.out.B).mono ?_; rintro r wh ⟨rfl, hbh⟩; have Hh : Hid (Bx w x Bq q b wh) := Hg.out.on hbh; have nh := (hbh.block _ (Array.getElem?_eq_some_iff.1 NG.out).1).trans NG.out; have t0 : wh.cell? ⟨wf.heap.size, 0, none⟩ = some (.int .i64 6) := (by rw [cell_of_heap nh]; rfl); have t1 : wh.cell? ⟨wf.heap.size, 1, none⟩ = some (.int .i64 k) := (by rw [cell_of_heap nh]; rfl); have HFa2 : Hid (Calls Tryz.prog 14 _ wh _) := HFc.out wh a2 Hh.out.B ((hbh.cell (p := ⟨a2, 0, none⟩) (cell_lt F6.out)).trans F6.out) ((hbh.cell (p := ⟨a2, 1, none⟩) (cell_lt F7.out)).trans F7.out); clear nh hbh)
  | (go_at_call 14; refine HFa2.out.mono ?_; rintro r wi ⟨rfl, hbi⟩; have Hi : Hid (Bx w x Bq q b wi) := Hh.out.on hbi; clear hbi))
 go_ret
 exact ⟨rfl, Hi.out.B⟩
theorem countDiffs_fine {s : Nat → Addr} (K : CountK s) (D : CountD s) (C : CountC s) (X : CountX s) (pp : Option Addr) (l : List En) (cap : Nat) (qq : Option Addr) (sh : List Ln) (cap2 : Nat) (most : Int) (cl : ByteArray) (last day : Int) (hla : In64 last) (hda : In64 day) (w : World) (hs : Sent w s) (hh : Handle w) (hz : ∀ e ∈ l, SzE e) (hr : l = [] ∨ ∃ bq off, pp = some ⟨bq, off, none⟩ ∧ Ents w bq off l) (h40 : l.length ≤ 40) (hno : longs l = false) (hq : ShIn w qq sh) (hcap : sh.length ≤ cap2) (h30 : sh.length ≤ 30) (hqz : ∀ x ∈ sh, SzL x) (hql : longsL sh = false) (hcl : cl.size ≤ 20) (hg1 : ∀ j, j < sh.length → sheetE sh j = 0) (hg2 : ∀ j, j < sh.length → noneS (bkTo l l.length) sh j = 0) :
  Calls Tryz.prog 4 #[.slice pp l.length cap, .slice qq sh.length cap2, .int .i64 most, .string cl, .int .i64 last, .int .i64 day] w fun r w' => r = .returned (.bool true) ∧ Below w.heap.size w w' := by
 have HCo : Hid (Calls Tryz.prog 6 _ _ _) := counted_any K w hs
 have HLg : Hid (∀ W, Below w.heap.size w W → Calls Tryz.prog 7 #[.slice pp l.length cap, .int .i64 40] W _) := longs_zero hz hr h40 hno
 have HLs : Hid (∀ W, Below w.heap.size w W → Calls Tryz.prog 8 #[.slice qq sh.length cap2] W fun r w' => r = .returned (.int .i64 0) ∧ w' = W) := fun W hb => by
  have := lsheet_any qq sh cap2 W (hq.on hb) h30 hqz
  rw [show longN sh = 0 by unfold longN; rw [hql]; rfl] at this
  exact this
 have HOf : Hid (∀ W, Below w.heap.size w W → Calls Tryz.prog 9 #[.slice pp l.length cap] W fun e w' => ∃ x Bq q, e = .returned (.tuple #[.pointer (some ⟨x.p, 0, none⟩), .pointer (some ⟨q, 0, none⟩), .bool true]) ∧ Bx w x Bq q (bkTo l l.length) w') := fun W hb =>
  (bookOf_any pp l cap W s (hs.below hb) (hh.below hb) hz (ents_on hr hb) (by omega)).mono fun r w' ⟨x, Bq, q, h1, h2⟩ => ⟨x, Bq, q, h1, h2.prog.mono hb.size, h2.ref, hb.trans (h2.below.mono hb.size)⟩
 have HDu : Hid (∀ W, Calls Tryz.prog 17 #[.string cl, .int .i64 last, .int .i64 day] W fun e w' => e = .returned (.bool (dueC cl last day)) ∧ Below W.heap.size W w') := fun W => K.due W cl last day hla hda
 have HIu : Hid (∀ W, Calls Tryz.prog 18 #[.string cl, .int .i64 last, .int .i64 day] W fun e w' => e = .returned (.bool (dueC cl last day)) ∧ w' = W) := fun W => due_any cl last day W
 have hok := bkTo_ok l l.length
 generalize bkTo l l.length = b at *
 have hg30 := hok.wf.gl
 have HCl : Hid (∀ W x Bq q, Bx w x Bq q b W → Calls Tryz.prog 20 #[.pointer (some ⟨x.p, 0, none⟩)] W fun e w' => (∃ p c, e = .returned (.slice p b.1.length c) ∧ Txs w' p (classesG b.1 b.1.length)) ∧ Below W.heap.size W w') := fun W x Bq q h => C.classes W _ x b h.X
 have HCr : Hid (∀ W x Bq q, Bx w x Bq q b W → Calls Tryz.prog 21 #[.pointer (some ⟨q, 0, none⟩)] W fun e w' => (∃ p c, e = .returned (.slice p b.1.length c) ∧ Txs w' p (classesG b.1 b.1.length)) ∧ Below W.heap.size W w') := fun W x Bq q h => (rclasses_any W Bq q b h.R hok.wf).mono fun e w' ⟨v, h1, h2, h3⟩ => by
  obtain ⟨p, c, rfl, h4⟩ := encS_txs h2
  rw [classesG_len b.1 (Nat.le_refl _)] at h1
  exact ⟨⟨p, c, h1, h4⟩, h3⟩
 have HTx : Hid (∀ W p1 p2 c1 c2, Txs W p1 (classesG b.1 b.1.length) → Txs W p2 (classesG b.1 b.1.length) → Calls Tryz.prog 19 #[.slice p1 b.1.length c1, .slice p2 b.1.length c2] W fun e w' => e = .returned (.bool true) ∧ Below W.heap.size W w') := fun W p1 p2 c1 c2 h1 h2 => by
  have hl := classesG_len b.1 (Nat.le_refl b.1.length)
  have := texts_one p1 p2 _ _ c1 c2 W h1 h2 rfl (by rw [hl]; omega)
  rw [hl, decide_eq_true rfl] at this
  exact this
 have HCn : Hid (∀ W, Calls Tryz.prog 20 #[.pointer none] W fun e w' => (∃ p c, e = .returned (.slice p 0 c)) ∧ Below W.heap.size W w') := X.classesN
 have HDn : Hid (∀ W, Below w.heap.size w W → Calls Tryz.prog 10 #[.pointer none, .slice qq sh.length cap2] W fun e w' => (∃ p c, e = .returned (.tuple #[.slice p 0 c, err (s 2)])) ∧ Below W.heap.size W w') := fun W hb => X.diffN W qq sh cap2 (hs.below hb) (hq.on hb) hcap h30 hqz
 have HCd : Hid (∀ W, Below w.heap.size w W → Calls Tryz.prog 23 #[err (s 2), .int .i64 3] W fun e w' => e = .returned (.bool true) ∧ Below W.heap.size W w') := fun W hb => coded_sent2 2 (by decide) 3 rfl W s (hs.below hb) (hh.below hb)
 have HCk : Hid (∀ W, Below w.heap.size w W → Calls Tryz.prog 15 #[.slice qq sh.length cap2] W fun e w' => e = .returned .nilIface ∧ Below W.heap.size W w') := fun W hb => (K.check W qq sh cap2 (hs.below hb) (hq.on hb) hcap h30 hqz).mono fun e w' ⟨h1, h2⟩ => by
  rcases h1 with ⟨_, h3⟩ | ⟨k', hk', _, hne', _⟩
  ·exact ⟨h3, h2⟩
  ·exact absurd (hg1 k' hk') hne'
 have HSh : Hid (∀ W, Below w.heap.size w W → Calls Tryz.prog 16 #[.slice qq sh.length cap2] W fun e w' => e = .returned (.agg #[.int .i64 0, .int .i64 (-1)]) ∧ Below W.heap.size W w') := fun W hb => (sheet_any qq sh cap2 W (hq.on hb) (by omega) hqz).mono fun e w' ⟨h1, h2⟩ => by
  rcases h1 with ⟨_, h3⟩ | ⟨k', hk', _, hne', _⟩
  ·exact ⟨h3, h2⟩
  ·exact absurd (hg1 k' hk') hne'
 have HDf : Hid (∀ W x Bq q, Bx w x Bq q b W → Calls Tryz.prog 10 #[.pointer (some ⟨x.p, 0, none⟩), .slice qq sh.length cap2] W fun e w' => (∃ p c, e = .returned (.tuple #[.slice p (diffL b.2.2 sh).length c, .nilIface]) ∧ (diffL b.2.2 sh = [] ∨ ∃ bq off, p = some ⟨bq, off, none⟩ ∧ W.heap.size ≤ bq ∧ Ents w' bq off (diffL b.2.2 sh))) ∧ Below W.heap.size W w') := fun W x Bq q h => D.diffF (hs.below h.B) h.X (hq.on h.B) hcap h30 hqz hg1 hg2
 have HDr : Hid (∀ W x Bq q, Bx w x Bq q b W → Calls Tryz.prog 22 #[.pointer (some ⟨q, 0, none⟩), .slice qq sh.length cap2] W fun e w' => (∃ p c, e = .returned (.tuple #[.slice p (diffL b.2.2 sh).length c, .agg #[.int .i64 0, .int .i64 (-1)]]) ∧ encD.Row w' W.heap.size 43 (.slice p (diffL b.2.2 sh).length c) (diffL b.2.2 sh)) ∧ Below W.heap.size W w') := fun W x Bq q h => (rdiff_any qq sh cap2 W Bq q b (hq.on h.B) h.R hok.wf (by omega) hqz).mono fun e w' ⟨h1, h2⟩ => by
  rcases h1 with ⟨k', hk', _, hne', _⟩ | ⟨_, k', hk', _, hne', _⟩ | ⟨_, _, v, h4, h5⟩
  ·exact absurd (hg1 k' hk') hne'
  ·exact absurd (hg2 k' hk') hne'
  ·obtain ⟨p, c, rfl⟩ := h5.shape
   exact ⟨⟨p, c, h4, h5⟩, h2⟩
 have hle := diffL_len b.2.2 sh
 obtain ⟨es, hes⟩ : ∃ es, diffL b.2.2 sh = es := ⟨_, rfl⟩
 rw [hes] at HDf HDr hle
 have HCs : Hid (∀ W p c, (es = [] ∨ ∃ bq off, p = some ⟨bq, off, none⟩ ∧ Ents W bq off es) → Calls Tryz.prog 24 #[.slice p es.length c, .int .i64 most] W fun e w' => e = .returned (.bool (closeE most es)) ∧ Below W.heap.size W w') := fun W p c h => X.close W p es c most h (by omega)
 obtain ⟨le2, hle2⟩ : ∃ le2, es.length = le2 := ⟨_, rfl⟩
 have HLe : Hid (es.length = le2) := hle2
 rw [hle2] at HDf HDr hle HCs
 have hle60 : le2 ≤ 30 := by omega
 have z2 : (cl.size : Int) ≤ 20 := by omega
 have hdd : ((dueC cl last day) == (dueC cl last day)) = true := by simp
 generalize dueC cl last day = dd at *
 generalize sh.length = ln at *
 generalize l.length = le at *
 clear K D C X hla hda hcap hs hh hz hr hno hq hqz hql hok hg1 hg2 hes hle2 hle
 go_enter Tryz.func4, Tryz.ntmps4
 go_wp2_with (first
  | (go_at_call 6; refine HCo.out.mono ?_; rintro r w1 ⟨rfl, hb1⟩; have HB1 : Hid (Below w.heap.size w w1) := hb1; clear hb1)
  | (go_at_call 7; refine (HLg.out _ HB1.out).mono ?_; rintro r w2 ⟨rfl, hb2⟩; have HB2 : Hid (Below w.heap.size w w2) := HB1.out.trans (hb2.mono HB1.out.size); clear hb2)
  | (go_at_call 8; refine (HLs.out _ HB2.out).mono ?_; rintro r w3 ⟨rfl, hw3⟩; have hw3' := hw3.symm; subst hw3')
  | (go_at_call 9; refine (HOf.out _ HB2.out).mono ?_; rintro r w4 ⟨x, Bq, q, rfl, hx4⟩; have H4 : Hid (Bx w x Bq q b w4) := hx4; clear hx4)
  | (go_at_call 15; refine (HCk.out _ H4.out.B).mono ?_; rintro r w5 ⟨rfl, hb5⟩; have H5 : Hid (Bx w x Bq q b w5) := H4.out.on hb5; clear hb5)
  | (go_at_call 16; refine (HSh.out _ H5.out.B).mono ?_; rintro r w6 ⟨rfl, hb6⟩; have H6 : Hid (Bx w x Bq q b w6) := H5.out.on hb6; have HFa1 : Hid (Calls Tryz.prog 14 _ w6 _) := faulted2_nil w6; clear hb6)
  | (go_at_call 14; refine HFa1.out.mono ?_; clear HFa1; rintro r w7 ⟨rfl, hb7⟩; have H7 : Hid (Bx w x Bq q b w7) := H6.out.on hb7; clear hb7)
  | (go_at_call 17; refine (HDu.out _).mono ?_; rintro r w8 ⟨rfl, hb8⟩; have H8 : Hid (Bx w x Bq q b w8) := H7.out.on hb8; clear hb8)
  | (go_at_call 18; refine (HIu.out _).mono ?_; rintro r w9 ⟨rfl, hw9⟩; have hw9' := hw9.symm; subst hw9')
  | (go_at_call 20; refine (HCl.out _ _ _ _ H8.out).mono ?_; clear HCl; rintro r wa ⟨⟨p1, c1, rfl, hta⟩, hba⟩; have Ha : Hid (Bx w x Bq q b wa) := H8.out.on hba; have HTa : Hid (Txs wa p1 (classesG b.1 b.1.length)) := hta; clear hta hba)
  | (go_at_call 21; refine (HCr.out _ _ _ _ Ha.out).mono ?_; rintro r wb ⟨⟨p2, c2, rfl, htb⟩, hbb⟩; have Hb : Hid (Bx w x Bq q b wb) := Ha.out.on hbb; have HSt : Hid (Calls Tryz.prog 19 _ wb _) := HTx.out wb p1 p2 c1 c2 (HTa.out.below hbb) htb; clear htb hbb)
  | (go_at_call 19; refine HSt.out.mono ?_; rintro r wc ⟨rfl, hbc⟩; have Hc : Hid (Bx w x Bq q b wc) := Hb.out.on hbc; clear hbc)
  | (go_at_call 20; refine (HCn.out _).mono ?_; rintro r wd ⟨⟨p3, c3, rfl⟩, hbd⟩; have Hd : Hid (Bx w x Bq q b wd) := Hc.out.on hbd; clear hbd)
  | (go_at_call 10; refine (HDf.out _ _ _ _ Hd.out).mono ?_; clear HDf; rintro r we ⟨⟨p4, c4, rfl, hE4⟩, hbe⟩; have He : Hid (Bx w x Bq q b we) := Hd.out.on hbe; have HE4 : Hid (∀ W, Below we.heap.size we W → (es = [] ∨ ∃ bq off, p4 = some ⟨bq, off, none⟩ ∧ Ents W bq off es)) := (fun W hb => hE4.imp id (fun ⟨bq, off, g1, _, g3⟩ => ⟨bq, off, g1, g3.below g3.lt hb⟩)); clear hE4 hbe)
  | (go_at_call 22; refine (HDr.out _ _ _ _ He.out).mono ?_; rintro r wf ⟨⟨p6, c6, rfl, hrow⟩, hbf⟩; have nf := heap_alloc_new wf (.cells #[.int .i64 0, .int .i64 (-1)] 53); have hbf' : Below we.heap.size we (wf.alloc (.cells #[.int .i64 0, .int .i64 (-1)] 53)) := hbf.alloc hbf.size _; have hrow' := hrow.below ((Below.refl _ wf).alloc (Nat.le_refl _) (.cells #[.int .i64 0, .int .i64 (-1)] 53)); obtain ⟨Wf, hWf⟩ : ∃ Wf, wf.alloc (.cells #[.int .i64 0, .int .i64 (-1)] 53) = Wf := ⟨_, rfl⟩; rw [hWf] at nf hbf' hrow'; have Hf : Hid (Bx w x Bq q b Wf) := He.out.on hbf'; have NF : Hid (Wf.heap[wf.heap.size]? = _) := nf; have HEf : Hid (Below we.heap.size we Wf) := hbf'; have HRf : Hid (encD.Row Wf we.heap.size 43 (.slice p6 le2 c6) es) := hrow'; clear nf hbf hbf' hrow hrow')
  | (go_at_call 10; refine (HDn.out _ Hf.out.B).mono ?_; rintro r wg ⟨⟨p5, c5, rfl⟩, hbg⟩; have Hg : Hid (Bx w x Bq q b wg) := Hf.out.on hbg; have NG : Hid (wg.heap[wf.heap.size]? = _) := (hbg.block _ (Array.getElem?_eq_some_iff.1 NF.out).1).trans NF.out; have HEg : Hid (Below we.heap.size we wg) := HEf.out.trans (hbg.mono HEf.out.size); have HRg : Hid (encD.Row wg we.heap.size 43 (.slice p6 le2 c6) es) := HRf.out.below hbg; clear hbg)
  | (go_at_call 23; refine (HCd.out _ Hg.out.B).mono ?_; rintro r wh ⟨rfl, hbh⟩; have Hh : Hid (Bx w x Bq q b wh) := Hg.out.on hbh; have nh := (hbh.block _ (Array.getElem?_eq_some_iff.1 NG.out).1).trans NG.out; have t0 : wh.cell? ⟨wf.heap.size, 0, none⟩ = some (.int .i64 0) := (by rw [cell_of_heap nh]; rfl); have HEh : Hid (Below we.heap.size we wh) := HEg.out.trans (hbh.mono HEg.out.size); have HRh : Hid (encD.Row wh we.heap.size 43 (.slice p6 le2 c6) es) := HRg.out.below hbh; clear nh hbh))
 go_loopw [23, 24] (fun vn vi wr => ∃ k : Nat, k ≤ le2 ∧ vi = .int .i64 k ∧ vn = .bool (nearE most es k) ∧ Below wh.heap.size wh wr) (fun _ vi _ => le2 - (RowKit.intOf vi).toNat)
 case atStart => exact ⟨0, Nat.zero_le _, rfl, rfl, Below.refl _ _⟩
 case round =>
  obtain ⟨k, hk, rfl, rfl, hb⟩ := hrel
  have HB : Hid (Below wh.heap.size wh wr) := hb
  by_cases hlt : k < le2
  ·obtain ⟨e, he⟩ : ∃ e, es[k]? = some e := ⟨_, List.getElem?_eq_getElem (by rw [HLe.out]; exact hlt)⟩
   have HNs : Hid (nearE most es (k + 1) = (nearE most es k && decide (e.2.2.2.2.2 ≤ most))) := nearE_succ he
   have HEa := fun W (hb9 : Below wh.heap.size wh W) => HE4.out W (HEh.out.trans (hb9.mono HEh.out.size))
   have hne : es ≠ [] := fun h9 => by rw [h9] at he; simp at he
   obtain ⟨bq, off, rfl, _⟩ := (HEa wr hb).resolve_left hne
   have HA : Hid (∀ W, Below wh.heap.size wh W → EntO W bq (off + k * 14) e) := fun W hb9 => by
    obtain ⟨bq', off', e9, h9⟩ := (HEa W hb9).resolve_left hne
    cases e9
    exact h9.at_ k e he
   have hrow := HRh.out
   rcases hrow.forms with ⟨_, h0⟩ | ⟨g, cp, hv, _, hgl, _, _, hcl⟩
   ·exact absurd h0 hne
   injection hv with hv1 hv2 hv3
   subst hv1
   have HW : Hid (∀ W, Below wh.heap.size wh W → ∀ c, c < 14 → W.cell? ⟨g, k * 14 + c, none⟩ = (encD.enc e)[c]?) := fun W hb9 c hc => (hb9.cell (p := ⟨g, k * 14 + c, none⟩) hgl).trans (hcl k e c he hc)
   have hd := fun d => HA.out (wr.drewN d) (below_drewN hb d)
   have a0 := fun d => (hd d).c0
   have a1 := fun d => (hd d).c1
   have a2 := fun d => (hd d).c2
   have a3 := fun d => (hd d).c3
   have a4 := fun d => (hd d).c4
   have a5 := fun d => (hd d).c5
   have a6 := fun d => (hd d).c6
   have a7 := fun d => (hd d).c7
   have a8 := fun d => (hd d).c8
   have a9 := fun d => (hd d).c9
   have a10 := fun d => (hd d).c10
   have a11 := fun d => (hd d).c11
   have a12 := fun d => (hd d).c12
   have a13 := fun d => (hd d).c13
   have hw := fun d => HW.out (wr.drewN d) (below_drewN hb d)
   have b0 : ∀ d, (wr.drewN d).cell? ⟨g, k * 14, none⟩ = some (.string e.1) := fun d => hw d 0 (by decide)
   have b1 : ∀ d, (wr.drewN d).cell? ⟨g, k * 14 + 1, none⟩ = some (.string e.2.1.1) := fun d => hw d 1 (by decide)
   have b2 : ∀ d, (wr.drewN d).cell? ⟨g, k * 14 + 2, none⟩ = some (.int .i64 e.2.1.2) := fun d => hw d 2 (by decide)
   have b3 : ∀ d, (wr.drewN d).cell? ⟨g, k * 14 + 3, none⟩ = some (.string e.2.2.1.1) := fun d => hw d 3 (by decide)
   have b4 : ∀ d, (wr.drewN d).cell? ⟨g, k * 14 + 4, none⟩ = some (.string e.2.2.1.2.1) := fun d => hw d 4 (by decide)
   have b5 : ∀ d, (wr.drewN d).cell? ⟨g, k * 14 + 5, none⟩ = some (.int .i64 e.2.2.1.2.2.1) := fun d => hw d 5 (by decide)
   have b6 : ∀ d, (wr.drewN d).cell? ⟨g, k * 14 + 6, none⟩ = some (.int .i64 e.2.2.1.2.2.2) := fun d => hw d 6 (by decide)
   have b7 : ∀ d, (wr.drewN d).cell? ⟨g, k * 14 + 7, none⟩ = some (.string e.2.2.2.1.1) := fun d => hw d 7 (by decide)
   have b8 : ∀ d, (wr.drewN d).cell? ⟨g, k * 14 + 8, none⟩ = some (.int .i64 e.2.2.2.1.2.1) := fun d => hw d 8 (by decide)
   have b9 : ∀ d, (wr.drewN d).cell? ⟨g, k * 14 + 9, none⟩ = some (.int .i64 e.2.2.2.1.2.2) := fun d => hw d 9 (by decide)
   have b10 : ∀ d, (wr.drewN d).cell? ⟨g, k * 14 + 10, none⟩ = some (.string e.2.2.2.2.1.1) := fun d => hw d 10 (by decide)
   have b11 : ∀ d, (wr.drewN d).cell? ⟨g, k * 14 + 11, none⟩ = some (.int .i64 e.2.2.2.2.1.2.1) := fun d => hw d 11 (by decide)
   have b12 : ∀ d, (wr.drewN d).cell? ⟨g, k * 14 + 12, none⟩ = some (.int .i64 e.2.2.2.2.1.2.2) := fun d => hw d 12 (by decide)
   have b13 : ∀ d, (wr.drewN d).cell? ⟨g, k * 14 + 13, none⟩ = some (.int .i64 e.2.2.2.2.2) := fun d => hw d 13 (by decide)
   have hqe := fun W => eqE_run e e W
   rw [sameE_self] at hqe
   have hgd := Tryz.guardE
   clear hv2 hv3 hrow hcl hgl he HEa hd hw hb
   have HA2 : Hid (∀ W, Below wh.heap.size wh W → W.cell? ⟨bq, off + k * 14 + 13, none⟩ = some (.int .i64 e.2.2.2.2.2)) := fun W hb9 => (HA.out W hb9).c13
   obtain ⟨ak, ⟨agc, agp⟩, ⟨ali, alc, alu, alk⟩, ⟨afz, afr, afb⟩, ⟨atz, atr, atb⟩, an⟩ := e
   unfold agE at hqe
   simp only at a0 a1 a2 a3 a4 a5 a6 a7 a8 a9 a10 a11 a12 a13 b0 b1 b2 b3 b4 b5 b6 b7 b8 b9 b10 b11 b12 b13 hqe HA2 HNs
   go_wp2
   go_quiet (fail)
   have HBn : Hid (Below wh.heap.size wh (wr.drewN nq)) := below_drewN HB.out nq
   have z0 := HA2.out (wr.drewN nq) HBn.out
   clear a0 a1 a2 a3 a4 a5 a6 a7 a8 a9 a10 a11 a12 a13 b0 b1 b2 b3 b4 b5 b6 b7 b8 b9 b10 b11 b12 b13 hqe
   generalize wr.drewN nq = w5x at *
   cases hnn : nearE most es k with
   | false =>
    rw [hnn, Bool.false_and] at HNs
    go_wp2
    go_roundw
    case rel => exact ⟨k + 1, by omega, by go_num, by rw [HNs.out], HBn.out⟩
    case measure => simp [RowKit.intOf]; omega
   | true =>
    rw [hnn, Bool.true_and] at HNs
    go_wp2
    go_roundw
    case rel => exact ⟨k + 1, by omega, by go_num, by rw [HNs.out], HBn.out⟩
    case measure => simp [RowKit.intOf]; omega
  ·have hkn : le2 = k := by omega
   subst hkn
   have htk : nearE most es le2 = closeE most es := by
    unfold nearE
    rw [List.take_of_length_le (by rw [HLe.out]; exact Nat.le_refl _)]
   rw [htk]
   have HCx : Hid (Calls Tryz.prog 24 _ wr _) := HCs.out wr p4 c4 (HE4.out wr (HEh.out.trans (hb.mono HEh.out.size)))
   have HBz : Hid (Below w.heap.size w wr) := Hh.out.B.trans (hb.mono Hh.out.B.size)
   generalize closeE most es = ce at *
   clear htk hb
   go_wp2_with (go_at_call 24; refine HCx.out.mono ?_; rintro r wz ⟨rfl, hbz⟩; have HBy : Hid (Below w.heap.size w wz) := HBz.out.trans (hbz.mono HBz.out.size); clear hbz)
   go_ret
   exact ⟨by simp, HBy.out⟩
theorem fieldOut (a n c d : Int) (w : World) : Sem.run Tryz.prog (Instr.field 68 (.agg #[.int .i64 a, .int .i64 n, .int .i64 c, .int .i64 d]) 1) w = .ok (.int .i64 n) w := by
 have u3 := Tryz.underlying68
 have a3 := Tryz.isAgg3
 have z3 := Tryz.sizeOf3
 unfold Instr.field
 go_simp
 rfl
theorem classesG_at (m : List Gs) : ∀ {i : Nat}, i ≤ m.length → ∀ {j : Nat} {g : Gs}, j < i → m[j]? = some g → (classesG m i)[j]? = some (classAt m j g)
 | 0, _, _, _, hj, _ => absurd hj (Nat.not_lt_zero _)
 | i + 1, h, j, g, hj, hg => by
  obtain ⟨x, hx⟩ : ∃ x, m[i]? = some x := ⟨_, List.getElem?_eq_getElem h⟩
  rw [classesG_succ hx]
  have hl := classesG_len m (Nat.le_of_succ_le h)
  rcases Nat.lt_or_ge j i with h9 | h9
  ·rw [List.getElem?_append_left (by rw [hl]; exact h9)]
   exact classesG_at m (Nat.le_of_succ_le h) h9 hg
  ·obtain rfl : j = i := by omega
   rw [hx] at hg
   cases hg
   rw [List.getElem?_append_right (by rw [hl]; exact Nat.le_refl _), hl, Nat.sub_self]
   rfl
theorem outOk_bk {b : Bk} (hw : WfB b) : OutOk b.1 := fun g hg => by
 obtain ⟨⟨_, h1, _, _⟩, h2⟩ := hw.sums g hg
 unfold okSu mostS at h2
 simp only [Bool.and_eq_true, decide_eq_true_eq] at h2
 exact ⟨h1, h2.2.1⟩
end Go.Proofs.YtppodkkefegbkaaGreatDoor
