/-
 The law BookDoes answers true of at most fifty entries, a code and an ID, none too long, in every memory in which the errors and the tables are laid; nothing ol
-/
import Derived.Test.YteomomeigbfeoaaGreatDoorJz39
import Derived.Test.YteomomeigbfeoaaGreatDoorJz16
import Derived.Test.YteomomeigbfeoaaGreatDoorJz31
import Derived.Test.YteomomeigbfeoaaGreatDoorJz28
import Derived.BigQuiet
import Derived.Deep.CutRange
import Derived.Deep.CutBlock
set_option maxRecDepth 100000
set_option maxHeartbeats 16000000
namespace Go.Proofs.YteomomeigbfeoaaGreatDoor
open Go.RowKit Go.Lib Go.Sort
structure OldD (w : World) (s : Nat → Addr) : Prop where
 sent : Sent w s
 handle : Handle w
 pow : Pow w
theorem OldD.below {w w' : World} {s : Nat → Addr} (h : OldD w s) (hb : Below w.heap.size w w') : OldD w' s := ⟨h.sent.below hb, h.handle.below hb, h.pow.below hb⟩
theorem OldD.old6 {w : World} {s : Nat → Addr} (h : OldD w s) : Old6 w s := ⟨h.sent.six, h.pow⟩
structure Dx (w : World) (s : Nat → Addr) (x : Bl) (Bq q : Nat) (b : Bk) (W : World) : Prop where
 X : IsBk W w.heap.size x b
 R : RefB W Bq q b
 B : Below w.heap.size w W
 O : OldD W s
theorem Dx.on {w : World} {s : Nat → Addr} {x : Bl} {Bq q : Nat} {b : Bk} {W W' : World} (h : Dx w s x Bq q b W) (hb : Below W.heap.size W W') : Dx w s x Bq q b W' := ⟨h.X.below hb, h.R.below hb, h.B.trans (hb.mono h.B.size), h.O.below hb⟩
theorem bookDoes_in (pp : Option Addr) (l : List En) (cap : Nat) (code id : ByteArray) (w : World) (s : Nat → Addr) (hO : OldD w s) (hz : ∀ e ∈ l, SzE e) (hr : l = [] ∨ ∃ bq off, pp = some ⟨bq, off, none⟩ ∧ Ents w bq off l) (h50 : l.length ≤ 50) (hno : longs l = false) (hc : code.size ≤ 30) (hi : id.size ≤ 30) :
  Calls Tryz.prog 5 #[.slice pp l.length cap, .string code, .string id] w fun r w' => r = .returned (.bool true) ∧ Below w.heap.size w w' := by
 have HSt : Hid (Calls Tryz.prog 8 _ _ _) := started_any w s hO.sent.bs
 have HLg : Hid (∀ W, Below w.heap.size w W → Calls Tryz.prog 9 #[.slice pp l.length cap, .int .i64 50] W fun r w' => r = .returned (.int .i64 0) ∧ Below W.heap.size W w') := fun W hb => by
  rcases hr with rfl | ⟨bq, off, rfl, hE⟩
  ·refine (longs_none pp cap 50 W (by decide)).mono ?_
   rintro r w' ⟨rfl, rfl⟩
   exact ⟨rfl, Below.refl _ _⟩
  ·have := longs_some l bq off cap 50 W (hE.below hE.lt hb) hz (by omega) (by decide)
   rw [hno] at this
   exact this
 have HOf : Hid (∀ W, Below w.heap.size w W → Calls Tryz.prog 11 #[.slice pp l.length cap] W fun e w' => ∃ x Bq q, e = .returned (.tuple #[.pointer (some ⟨x.p, 0, none⟩), .pointer (some ⟨q, 0, none⟩), .bool true]) ∧ Dx w s x Bq q (bkTo l l.length) w') := fun W hb => by
  have hW := hO.below hb
  refine (bookOf_any pp l cap W s hW.sent hW.handle hz (hr.imp (fun h => h) fun ⟨bq, off, h1, h2⟩ => ⟨bq, off, h1, h2.below h2.lt hb⟩) (by omega)).mono ?_
  rintro r w' ⟨x, Bq, q, h1, h2⟩
  exact ⟨x, Bq, q, h1, h2.prog.mono hb.size, h2.ref, hb.trans (h2.below.mono hb.size), hW.below h2.below⟩
 have HRp : Hid (∀ W, Below w.heap.size w W → Calls Tryz.prog 28 #[.slice pp l.length cap] W _) := fun W hb => replay_any pp l cap W s (hO.below hb).sent.bs hz (hr.imp (fun h => h) fun ⟨bq, off, h1, h2⟩ => ⟨bq, off, h1, h2.below h2.lt hb⟩) (by omega)
 have HRr : Hid (∀ W, Below w.heap.size w W → Calls Tryz.prog 29 #[.slice pp l.length cap] W _) := fun W hb => refReplay_all pp l cap W hz (hr.imp (fun h => h) fun ⟨bq, off, h1, h2⟩ => ⟨bq, off, h1, h2.below h2.lt hb⟩) (by omega)
 have hok := bkTo_ok l l.length
 have h59 : (bkTo l l.length).2.1.length ≤ 59 := Nat.le_trans (bkTo_lots l l.length) (Nat.le_trans h50 (by decide))
 have her := errs_first l l.length
 generalize bkTo l l.length = b at *
 have HEl : Hid (∀ k, errAt l k ≤ 12) := errAt_le l
 generalize errAt l = er at *
 generalize l.length = ln at *
 have HOK : Hid (BkOk b) := hok
 have H59 : Hid (b.2.1.length ≤ 59) := h59
 have HAs : Hid (∀ W x Bq q B, IsBk W B x b → RefB W Bq q b → OldD W s → Calls Tryz.prog 24 #[.pointer (some ⟨x.p, 0, none⟩), .pointer (some ⟨q, 0, none⟩)] W fun e w' => e = .returned (.int .i64 1) ∧ Below W.heap.size W w') := fun W x Bq q B h1 h2 h3 => asBook_any W s B Bq q x b h1 h2 h3.old6 h59
 have hci : ((isLot b id = true ∧ ∃ k : Nat, findI nameL b.2.1 id = (k : Int)) ∨ (isLot b id = false ∧ findI nameL b.2.1 id = -1 ∧ lotAt b id = zeroLo ∧ heldB b id = 0)) := by
  rcases findI_cases nameL b.2.1 id with ⟨h1, h2⟩ | ⟨k, x, h1, h2, h3⟩
  ·obtain ⟨h4, h5, h6⟩ := none_lot h2
   exact Or.inr ⟨h5, h1, h4, h6⟩
  ·exact Or.inl ⟨some_lot (List.mem_of_getElem? h2) h3, k, h1⟩
 have hcc : ((∃ k : Nat, findI nameG b.1 code = (k : Int)) ∨ (findI nameG b.1 code = -1 ∧ sumsB b code = zeroSu ∧ hasL b.2.2 code b.2.1 = 0 ∧ lotsOf b.2.1 code = [])) := by
  rcases findI_cases nameG b.1 code with ⟨h1, h2⟩ | ⟨k, x, h1, h2, h3⟩
  ·exact Or.inr ⟨h1, none_goods hok h2⟩
  ·exact Or.inl ⟨k, h1⟩
 have hci' : id.size ≤ maxLen := by unfold maxLen; omega
 have hcc' : code.size ≤ maxLen := by unfold maxLen; omega
 obtain ⟨zl, hzl⟩ : ∃ z, lotAt b id = z := ⟨_, rfl⟩
 obtain ⟨iL, hiL⟩ : ∃ z, isLot b id = z := ⟨_, rfl⟩
 obtain ⟨kL, hkL⟩ : ∃ z, findI nameL b.2.1 id = z := ⟨_, rfl⟩
 obtain ⟨kG, hkG⟩ : ∃ z, findI nameG b.1 code = z := ⟨_, rfl⟩
 have HLo : Hid (∀ W x, IsBk W w.heap.size x b → Calls Tryz.prog 25 #[.pointer (some ⟨x.p, 0, none⟩), .string id] W fun e w' => e = .returned (.tuple #[agQ zl, .bool iL]) ∧ Below W.heap.size W w') := fun W x hx => by
  have := blot_any id W _ x b hx hci'
  rw [hzl, hiL] at this
  exact this
 have HFl : Hid (∀ W Bq q, RefB W Bq q b → Calls Tryz.prog 26 #[.pointer (some ⟨q, 0, none⟩), .string id] W fun e w' => e = .returned (.int .i64 kL) ∧ w' = W) := fun W Bq q h => hkL ▸ findL_any W Bq q b id h (by have := hok.wf.ll; omega)
 have HFg : Hid (∀ W Bq q, RefB W Bq q b → Calls Tryz.prog 27 #[.pointer (some ⟨q, 0, none⟩), .string code] W fun e w' => e = .returned (.int .i64 kG) ∧ w' = W) := fun W Bq q h => hkG ▸ findG_any W Bq q b code h (by have := hok.wf.gl; omega)
 rw [hiL, hkL, hzl] at hci
 rw [hkG] at hcc
 have HCi : Hid (_ ∨ _) := hci
 have HCc : Hid (_ ∨ _) := hcc
 have HEr : Hid (_ ∨ _) := her
 have HW : Hid (OldD w s) := hO
 clear hO hz hr hno hok h59 hci hcc her hzl hiL hkL hkG
 obtain ⟨za, zc, zu, zk⟩ := zl
 unfold agQ at HLo
 simp only at HLo
 go_enter Tryz.func5, Tryz.ntmps5
 go_upto_region 9 with (first
  | (go_at_call 8; refine HSt.out.mono ?_; rintro r w1 ⟨rfl, hb1⟩; have HB1 : Hid (Below w.heap.size w w1) := hb1; clear hb1)
  | (go_at_call 9; refine (HLg.out _ HB1.out).mono ?_; rintro r w2 ⟨rfl, hb2⟩; have HB2 : Hid (Below w.heap.size w w2) := HB1.out.trans (hb2.mono HB1.out.size); clear hb2)
  | (go_at_call 11; refine (HOf.out _ HB2.out).mono ?_; rintro r w3 ⟨x, Bq, q, rfl, hD3⟩; have HD3 : Hid (Dx w s x Bq q b w3) := hD3; have HA3 : Hid (Calls Tryz.prog 24 _ w3 _) := HAs.out w3 x Bq q _ hD3.X hD3.R hD3.O; clear hD3)
  | (go_at_call 24; refine HA3.out.mono ?_; clear HA3; rintro r w4 ⟨rfl, hb4⟩; have HD4 : Hid (Dx w s x Bq q b w4) := HD3.out.on hb4; clear hb4)
  | (go_at_call 12; refine (bcopy_any _ _ _ _ HD4.out.X).mono ?_; rintro r w5 ⟨y, rfl, hy, hb5⟩; have HD5 : Hid (Dx w s x Bq q b w5) := HD4.out.on hb5; have HA5 : Hid (Calls Tryz.prog 24 _ w5 _) := HAs.out w5 y Bq q _ hy HD5.out.R HD5.out.O; clear hy hb5)
  | (go_at_call 24; refine HA5.out.mono ?_; rintro r w6 ⟨rfl, hb6⟩; have HD6 : Hid (Dx w s x Bq q b w6) := HD5.out.on hb6; clear hb6)
  | (go_at_call 25; refine (HLo.out _ _ HD6.out.X).mono ?_; rintro r w7 ⟨rfl, hb7⟩; have n7 := heap_alloc_new w7 (.cells #[.string za, .string zc, .int .i64 zu, .int .i64 zk] 26); have hb7' : Below w6.heap.size w6 (w7.alloc (.cells #[.string za, .string zc, .int .i64 zu, .int .i64 zk] 26)) := hb7.alloc hb7.size _; obtain ⟨W7, hW7⟩ : ∃ W7, w7.alloc (.cells #[.string za, .string zc, .int .i64 zu, .int .i64 zk] 26) = W7 := ⟨_, rfl⟩; rw [hW7] at n7 hb7'; have HD7 : Hid (Dx w s x Bq q b W7) := HD6.out.on hb7'; have d0 : W7.cell? ⟨w7.heap.size, 0, none⟩ = some (.string za) := (by rw [cell_of_heap n7]; rfl); have d1 : W7.cell? ⟨w7.heap.size, 1, none⟩ = some (.string zc) := (by rw [cell_of_heap n7]; rfl); have d2 : W7.cell? ⟨w7.heap.size, 2, none⟩ = some (.int .i64 zu) := (by rw [cell_of_heap n7]; rfl); have d3 : W7.cell? ⟨w7.heap.size, 3, none⟩ = some (.int .i64 zk) := (by rw [cell_of_heap n7]; rfl); clear n7 hb7 hb7')
  | (go_at_call 26; refine (HFl.out _ _ _ HD7.out.R).mono ?_; rintro r w8 ⟨rfl, hw9⟩; have hw8 := hw9.symm; subst hw8))
 go_cut [89] from 67 to 89 (fun s89 wc => s89 = .bool false ∧ W7 = wc)
 case first =>
  rcases HCi.out with ⟨rfl, k, rfl⟩ | ⟨rfl, rfl, hz0, hh0⟩
  ·have z1 : decide ((k : Int) ≥ 0) = true := decide_eq_true (by omega)
   have z2 : decide ((k : Int) < 0) = false := decide_eq_false (by omega)
   have z3 : ¬ (k : Int) < 0 := by omega
   have z4 : (0 : Int) ≤ (k : Int) := by omega
   go_wp2_with fail
   go_meet
   exact ⟨rfl, rfl⟩
  ·have hq := fun W => eqL9a_run (za, zc, zu, zk) zeroLo W
   have hgd := Tryz.guardQq
   rw [decide_eq_true hz0] at hq
   unfold zeroLo at hq
   simp only at hq
   have hHe := bheld_any id W7 _ _ _ HD7.out.X hci'
   rw [hh0] at hHe
   have HHe : Hid (Calls Tryz.prog 21 _ W7 _) := hHe
   clear hHe hz0 hh0
   go_wp2_with (go_at_call 21; refine HHe.out.mono ?_; rintro r w9 ⟨rfl, hw9⟩; have hw8 := hw9.symm; subst hw8)
   go_meet
   exact ⟨rfl, rfl⟩
 case rest =>
 obtain ⟨rfl, rfl⟩ := hcut
 clear d0 d1 d2 d3
 go_upto_region 11 with fail
 go_cut [113] from 90 to 113 (fun s113 wc => s113 = .bool false ∧ Below W7.heap.size W7 wc)
 case first =>
  rcases HCc.out with ⟨k, rfl⟩ | ⟨rfl, hs0, hh0, hl0⟩
  ·have z2 : decide ((k : Int) < 0) = false := decide_eq_false (by omega)
   have z3 : ¬ (k : Int) < 0 := by omega
   go_wp2_with (go_at_call 27; refine (HFg.out _ _ _ HD7.out.R).mono ?_; rintro r w8 ⟨rfl, hw9⟩; have hw8 := hw9.symm; subst hw8)
   go_meet
   exact ⟨rfl, Below.refl _ _⟩
  ·have hq := fun W => eqU_run zeroSu zeroSu W
   have hgd := Tryz.guardU
   unfold zeroSu at hq
   simp only [decide_true] at hq
   have HHa : Hid (∀ W, Dx w s x Bq q b W → Calls Tryz.prog 17 #[.pointer (some ⟨x.p, 0, none⟩), .string code] W fun e w' => e = .returned (.int .i64 0) ∧ Below W.heap.size W w') := fun W h => by
    have := bhas_any code W _ x b h.X
    rw [hh0] at this
    exact this
   have HSu : Hid (∀ W, Dx w s x Bq q b W → Calls Tryz.prog 16 #[.pointer (some ⟨x.p, 0, none⟩), .string code] W fun e w' => e = .returned (.agg #[.int .i64 0, .int .i64 0, .int .i64 0, .int .i64 0]) ∧ Below W.heap.size W w') := fun W h => by
    have := bsums_any code W _ x b h.X hcc'
    rw [hs0] at this
    exact this
   have HLs : Hid (∀ W, Dx w s x Bq q b W → Calls Tryz.prog 20 #[.pointer (some ⟨x.p, 0, none⟩), .string code] W fun e w' => ∃ pl cl, e = .returned (.slice pl 0 cl) ∧ Below W.heap.size W w') := fun W h => (blots_any code W _ x b h.X H59.out).mono fun e w' ⟨v, d, h1, h2, h3, _, h5⟩ => by
    obtain ⟨pl, cl, rfl, _⟩ := h2.shape4
    have h9 := h3.length_eq
    rw [hl0] at h9
    have h8 : d.size = 0 := by simpa using h9
    exact ⟨pl, cl, by rw [h1, h8], h5⟩
   clear hs0 hh0 hl0
   go_wp2_with (first
    | (go_at_call 27; refine (HFg.out _ _ _ HD7.out.R).mono ?_; rintro r w8 ⟨rfl, hw9⟩; have hw8 := hw9.symm; subst hw8)
    | (go_at_call 17; refine (HHa.out _ HD7.out).mono ?_; rintro r w8 ⟨rfl, hb8⟩; have HD8 : Hid (Dx w s x Bq q b w8) := HD7.out.on hb8; have HB8 : Hid (Below W7.heap.size W7 w8) := hb8; clear hb8)
    | (go_at_call 16; refine (HSu.out _ HD8.out).mono ?_; rintro r w9 ⟨rfl, hb9⟩; have HD9 : Hid (Dx w s x Bq q b w9) := HD8.out.on hb9; have HB9 : Hid (Below W7.heap.size W7 w9) := HB8.out.trans (hb9.mono HB8.out.size); clear hb9)
    | (go_at_call 20; refine (HLs.out _ HD9.out).mono ?_; rintro r wa ⟨pl, cl, rfl, hba⟩; have HBa : Hid (Below W7.heap.size W7 wa) := HB9.out.trans (hba.mono HB9.out.size); clear hba))
   go_meet
   exact ⟨rfl, HBa.out⟩
 case rest =>
 obtain ⟨rfl, hB11⟩ := hcut
 have HD11 : Hid (Dx w s x Bq q b wc) := HD7.out.on hB11
 clear hB11
 rcases HEr.out with hno | ⟨k, hk, hbe, hne⟩
 ·have HRp1 : Hid (∀ W, Below w.heap.size w W → Calls Tryz.prog 28 #[.slice pp ln cap] W fun r w' => ∃ z : Bl, r = .returned (.tuple #[.pointer (some ⟨z.p, 0, none⟩), .nilIface]) ∧ IsBk w' W.heap.size z b ∧ Below W.heap.size W w') := fun W hb => (HRp.out W hb).mono fun r w' ⟨h1, h2⟩ => by
   rcases h1 with ⟨_, z, h3, h4⟩ | ⟨k, hk, _, hne, _⟩
   ·exact ⟨z, h3, h4, h2⟩
   ·exact absurd (hno k hk) hne
  have HRr1 : Hid (∀ W, Below w.heap.size w W → Calls Tryz.prog 29 #[.slice pp ln cap] W fun r w' => r = .returned (.tuple #[.pointer (some ⟨W.heap.size + 1, 0, none⟩), .agg #[.int .i64 0, .int .i64 (-1)]]) ∧ RefB w' (W.heap.size + 1) (W.heap.size + 1) b ∧ Below W.heap.size W w') := fun W hb => (HRr.out W hb).mono fun r w' ⟨h1, h2⟩ => by
   rcases h1 with ⟨_, h3, h4⟩ | ⟨k, hk, _, hne, _⟩
   ·exact ⟨h3, h4, h2⟩
   ·exact absurd (hno k hk) hne
  clear hno
  go_wp2_with (first
   | (go_at_call 28; refine (HRp1.out _ HD11.out.B).mono ?_; rintro r we ⟨z, rfl, hz, hbe⟩; have HDe : Hid (Dx w s x Bq q b we) := HD11.out.on hbe; have HZe : Hid (IsBk we wc.heap.size z b) := hz; clear hz hbe)
   | (go_at_call 29; refine (HRr1.out _ HDe.out.B).mono ?_; rintro r wf ⟨rfl, hrf, hbf⟩; have nf := heap_alloc_new wf (.cells #[.int .i64 0, .int .i64 (-1)] 62); have hbf' : Below we.heap.size we (wf.alloc (.cells #[.int .i64 0, .int .i64 (-1)] 62)) := hbf.alloc hbf.size _; have hrf' := hrf.below ((Below.refl _ wf).alloc (Nat.le_refl _) (.cells #[.int .i64 0, .int .i64 (-1)] 62)); obtain ⟨Wf, hWf⟩ : ∃ Wf, wf.alloc (.cells #[.int .i64 0, .int .i64 (-1)] 62) = Wf := ⟨_, rfl⟩; rw [hWf] at nf hbf' hrf'; have HDf : Hid (Dx w s x Bq q b Wf) := HDe.out.on hbf'; have HZf : Hid (IsBk Wf wc.heap.size z b) := HZe.out.below hbf'; have HA9 : Hid (Calls Tryz.prog 24 _ Wf _) := HAs.out Wf z _ _ _ HZf.out hrf' HDf.out.O; have t0 : Wf.cell? ⟨wf.heap.size, 0, none⟩ = some (.int .i64 0) := (by rw [cell_of_heap nf]; rfl); have t1 : Wf.cell? ⟨wf.heap.size, 1, none⟩ = some (.int .i64 (-1)) := (by rw [cell_of_heap nf]; rfl); clear nf hrf hrf' hbf hbf')
   | (go_at_call 24; refine HA9.out.mono ?_; rintro r wg ⟨rfl, hbg⟩; have HDg : Hid (Dx w s x Bq q b wg) := HDf.out.on hbg; have HSm : Hid (Calls Tryz.prog 14 _ wg _) := same_any wg _ _ z x b b (HZf.out.below hbg) HDg.out.X true (by simp); clear hbg)
   | (go_at_call 14; refine HSm.out.mono ?_; rintro r wh ⟨rfl, hbh⟩; have HDh : Hid (Dx w s x Bq q b wh) := HDg.out.on hbh; clear hbh))
  go_ret
  exact ⟨rfl, HDh.out.B⟩
 ·have HRp1 : Hid (∀ W, Below w.heap.size w W → Calls Tryz.prog 28 #[.slice pp ln cap] W fun r w' => ∃ f, r = .returned (.tuple #[.pointer none, .iface 126 (.pointer (some ⟨f, 0, none⟩))]) ∧ w'.cell? ⟨f, 0, none⟩ = some (.int .i64 k) ∧ w'.cell? ⟨f, 1, none⟩ = some (err (s (er k - 1))) ∧ Below W.heap.size W w') := fun W hb => (HRp.out W hb).mono fun r w' ⟨h1, h2⟩ => by
   rcases h1 with ⟨hno, _⟩ | ⟨k', hk', hb', hne', f, h3, h4, h5⟩
   ·exact absurd (hno k hk) hne
   ·obtain rfl := first_one hbe hne hb' hne'
    exact ⟨f, h3, h4, h5, h2⟩
  have HRr1 : Hid (∀ W, Below w.heap.size w W → Calls Tryz.prog 29 #[.slice pp ln cap] W fun r w' => r = .returned (.tuple #[.pointer none, .agg #[.int .i64 (er k), .int .i64 k]]) ∧ Below W.heap.size W w') := fun W hb => (HRr.out W hb).mono fun r w' ⟨h1, h2⟩ => by
   rcases h1 with ⟨hno, _⟩ | ⟨k', hk', hb', hne', h3⟩
   ·exact absurd (hno k hk) hne
   ·obtain rfl := first_one hbe hne hb' hne'
    exact ⟨h3, h2⟩
  have he12 := HEl.out k
  have HFa : Hid (∀ W f, OldD W s → W.cell? ⟨f, 0, none⟩ = some (.int .i64 k) → W.cell? ⟨f, 1, none⟩ = some (err (s (er k - 1))) → Calls Tryz.prog 30 #[.iface 126 (.pointer (some ⟨f, 0, none⟩)), .agg #[.int .i64 (er k), .int .i64 k]] W fun e w' => e = .returned (.bool true) ∧ Below W.heap.size W w') := fun W f h h0 h1 =>
   faulted2_of _ (er k) k W (by omega) fun w1 hb1 => by
    have h9 := code_fault_sent f 0 k (er k - 1) (by omega) w1 s (h.below hb1).sent (h.below hb1).handle ((hb1.cell (p := ⟨f, 0, none⟩) (cell_lt h0)).trans h0) ((hb1.cell (p := ⟨f, 1, none⟩) (cell_lt h1)).trans h1)
    rw [show er k - 1 + 1 = er k by omega] at h9
    exact h9
  have z1 : (0 : Int) < (er k : Int) := by omega
  clear hk hbe hne he12
  generalize hek : er k = ek at *
  clear hek
  go_wp2_with (first
   | (go_at_call 28; refine (HRp1.out _ HD11.out.B).mono ?_; rintro r we ⟨f, rfl, hf0, hf1, hbe⟩; have HDe : Hid (Dx w s x Bq q b we) := HD11.out.on hbe; have F0 : Hid (we.cell? ⟨f, 0, none⟩ = _) := hf0; have F1 : Hid (we.cell? ⟨f, 1, none⟩ = _) := hf1; clear hf0 hf1 hbe)
   | (go_at_call 29; refine (HRr1.out _ HDe.out.B).mono ?_; rintro r wf ⟨rfl, hbf⟩; have nf := heap_alloc_new wf (.cells #[.int .i64 ek, .int .i64 k] 62); have hbf' : Below we.heap.size we (wf.alloc (.cells #[.int .i64 ek, .int .i64 k] 62)) := hbf.alloc hbf.size _; obtain ⟨Wf, hWf⟩ : ∃ Wf, wf.alloc (.cells #[.int .i64 ek, .int .i64 k] 62) = Wf := ⟨_, rfl⟩; rw [hWf] at nf hbf'; have HDf : Hid (Dx w s x Bq q b Wf) := HDe.out.on hbf'; have HFb : Hid (Calls Tryz.prog 30 _ Wf _) := HFa.out Wf f HDf.out.O ((hbf'.cell (p := ⟨f, 0, none⟩) (cell_lt F0.out)).trans F0.out) ((hbf'.cell (p := ⟨f, 1, none⟩) (cell_lt F1.out)).trans F1.out); have t0 : Wf.cell? ⟨wf.heap.size, 0, none⟩ = some (.int .i64 ek) := (by rw [cell_of_heap nf]; rfl); have t1 : Wf.cell? ⟨wf.heap.size, 1, none⟩ = some (.int .i64 k) := (by rw [cell_of_heap nf]; rfl); clear nf hbf hbf')
   | (go_at_call 30; refine HFb.out.mono ?_; rintro r wg ⟨rfl, hbg⟩; have HDg : Hid (Dx w s x Bq q b wg) := HDf.out.on hbg; clear hbg))
  go_ret
  exact ⟨rfl, HDg.out.B⟩
theorem bookDoes_long (v : Value) (code id : ByteArray) (n : Int) (w : World) (s : Nat → Addr) (hs : Bs w s) (wc : code.size ≤ maxLen) (wi : id.size ≤ maxLen) (hL : ∀ W, Below w.heap.size w W → Calls Tryz.prog 9 #[v, .int .i64 50] W fun r w' => r = .returned (.int .i64 n) ∧ Below W.heap.size W w') (hn : n = 1 ∨ n = 0 ∧ (30 < code.size ∨ code.size ≤ 30 ∧ 30 < id.size)) :
  Calls Tryz.prog 5 #[v, .string code, .string id] w fun r w' => r = .returned (.bool true) ∧ Below w.heap.size w w' := by
 have HSt : Hid (Calls Tryz.prog 8 _ _ _) := started_any w s hs
 have HL : Hid (∀ W, Below w.heap.size w W → Calls Tryz.prog 9 #[v, .int .i64 50] W _) := hL
 unfold maxLen at wc wi
 clear hs hL
 rcases hn with rfl | ⟨rfl, h | ⟨h, h'⟩⟩
 all_goals
  go_enter Tryz.func5, Tryz.ntmps5
  go_wp2_with (first
   | (go_at_call 8; refine HSt.out.mono ?_; rintro r w1 ⟨rfl, hb1⟩; have HB1 : Hid (Below _ _ _) := hb1; clear hb1)
   | (go_at_call 9; refine (HL.out _ HB1.out).mono ?_; rintro r w2 ⟨rfl, hb2⟩))
  go_ret
  exact ⟨rfl, HB1.out.trans (hb2.mono HB1.out.size)⟩
theorem bookDoes_any (v : Value) (code id : ByteArray) (w : World) (s : Nat → Addr) (hO : OldD w s) (wc : code.size ≤ maxLen) (wi : id.size ≤ maxLen) (ho : (∃ ad c, v = .slice ad 0 c) ∨ ∃ b off c l, 1 ≤ l.length ∧ l.length ≤ maxLen ∧ v = .slice (some ⟨b, off, none⟩) l.length c ∧ Ents w b off l ∧ ∀ e ∈ l, SzE e) :
  Calls Tryz.prog 5 #[v, .string code, .string id] w fun r w' => r = .returned (.bool true) ∧ Below w.heap.size w w' := by
 have key : ∀ (pp : Option Addr) (l : List En) (c : Nat), (∀ e ∈ l, SzE e) → (l = [] ∨ ∃ bq off, pp = some ⟨bq, off, none⟩ ∧ Ents w bq off l) → Calls Tryz.prog 5 #[.slice pp l.length c, .string code, .string id] w fun r w' => r = .returned (.bool true) ∧ Below w.heap.size w w' := fun pp l c hz hr => by
  by_cases h50 : l.length ≤ 50
  ·have hL : ∀ W, Below w.heap.size w W → Calls Tryz.prog 9 #[.slice pp l.length c, .int .i64 50] W fun r w' => r = .returned (.int .i64 (if longs l then 1 else 0)) ∧ Below W.heap.size W w' := fun W hb => by
    rcases hr with rfl | ⟨bq, off, rfl, hE⟩
    ·refine (longs_none pp c 50 W (by decide)).mono ?_
     rintro r w' ⟨rfl, rfl⟩
     exact ⟨rfl, Below.refl _ _⟩
    ·exact longs_some l bq off c 50 W (hE.below hE.lt hb) hz (by omega) (by decide)
   cases hl : longs l with
   | true =>
    rw [hl] at hL
    exact bookDoes_long _ code id 1 w s hO.sent.bs wc wi hL (Or.inl rfl)
   | false =>
    rw [hl] at hL
    by_cases h1 : code.size ≤ 30
    ·by_cases h2 : id.size ≤ 30
     ·exact bookDoes_in pp l c code id w s hO hz hr h50 hl h1 h2
     ·exact bookDoes_long _ code id 0 w s hO.sent.bs wc wi hL (Or.inr ⟨rfl, Or.inr ⟨h1, by omega⟩⟩)
    ·exact bookDoes_long _ code id 0 w s hO.sent.bs wc wi hL (Or.inr ⟨rfl, Or.inl (by omega)⟩)
  ·refine bookDoes_long _ code id 1 w s hO.sent.bs wc wi (fun W _ => ?_) (Or.inl rfl)
   refine (longs_many pp l.length c 50 W (by omega)).mono ?_
   rintro r w' ⟨rfl, rfl⟩
   exact ⟨rfl, Below.refl _ _⟩
 rcases ho with ⟨ad, c, rfl⟩ | ⟨b, off, c, l, h1, hm, rfl, hE, hz⟩
 ·exact key ad [] c (by simp) (Or.inl rfl)
 ·exact key _ l c hz (Or.inr ⟨b, off, rfl, hE⟩)
end Go.Proofs.YteomomeigbfeoaaGreatDoor
