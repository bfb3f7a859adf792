/-
  stock.Read, walked: of a text of at most 20,000 bytes, and of a longer one.
-/
import Derived.Test.YtiegilnjfadhiabDoorKRead
namespace Go.Proofs.YtiegilnjfadhiabDoor
open Go.RowKit Go.Lib Go.Sort

set_option maxRecDepth 100000 in
set_option maxHeartbeats 1000000 in
theorem kread_long (x : ByteArray) (w : World) (s : Nat → Addr) (hz : 20000 < x.size) (hm : x.size ≤ maxLen) (hs : Six w s) :
    Calls Tryd.prog 26 #[.string x] w fun e w' => e = .returned (.tuple #[.pointer none, err (s 1)]) ∧ Below w.heap.size w w' := by
  have hb := hs.five.two.bound
  unfold maxLen at hm
  clear hs
  go_enter Tryd.func26, Tryd.ntmps26
  go_wp2
  go_quiet (fail)
  go_wp2
  go_ret2
  exact ⟨rfl, below_drewN (Below.refl _ _) _⟩
set_option maxRecDepth 100000 in
set_option maxHeartbeats 8000000 in
theorem kread_in (x : ByteArray) (w : World) (s : Nat → Addr) (hz : x.size ≤ 20000) (hs : Six w s) :
    Calls Tryd.prog 26 #[.string x] w fun e w' => ReadRes w w' s e (readS [] 0 (splitL 10 x.data.toList)) ∧ Below w.heap.size w w' := by
  have hL : Left (readS [] 0 (splitL 10 x.data.toList)) x.data.toList 0 [] := ⟨rfl, Wf.nil, by rw [size_len]; omega⟩
  generalize readS [] 0 (splitL 10 x.data.toList) = R at *
  have HS : Hid (∀ w1, Below w.heap.size w w1 → Six w1 s) := fun w1 hb => hs.below hb
  clear hs
  have HX : Hid (x = ⟨x.data.toList.toArray⟩) := by show _ = _; simp
  generalize x.data.toList = l0 at *
  have hx := HX.out
  subst hx
  rw [mk_size] at hz
  have hz' : (⟨l0.toArray⟩ : ByteArray).size ≤ 20000 := by rw [mk_size]; exact hz
  clear HX
  go_enter Tryd.func26, Tryd.ntmps26
  go_wp2_with (go_at_call 20; refine (new_any _).mono ?_; rintro e w1 ⟨rfl, hi1, hb1⟩)
  have hI : RdInv w (w1.alloc (.cells #[.string ⟨#[]⟩, .int .i64 0, .int .i64 0, .string ⟨#[]⟩, .int .i64 0] 81)) (w.heap.size + 1) w.heap.size w1.heap.size [] (lastOr []) := by
    have hb2 : Below w1.heap.size w1 (w1.alloc (.cells #[.string ⟨#[]⟩, .int .i64 0, .int .i64 0, .string ⟨#[]⟩, .int .i64 0] 81)) := (Below.refl _ w1).alloc (Nat.le_refl _) _
    have hlt := hi1.lt
    exact ⟨hi1.all hb2, heap_alloc_new w1 _, hb1.alloc hb1.size _, by omega, Nat.le_refl _, hb1.size, by omega, by omega⟩
  generalize w1.alloc (.cells #[.string ⟨#[]⟩, .int .i64 0, .int .i64 0, .string ⟨#[]⟩, .int .i64 0] 81) = w2 at *
  clear hi1 hb1
  generalize w1.heap.size = q at *
  generalize w.heap.size + 1 = p at *
  obtain ⟨b, hbv⟩ : ∃ b, b = w.heap.size := ⟨_, rfl⟩
  have hI' : RdInv w w2 p b q [] (lastOr []) := by rw [hbv]; exact hI
  clear hI hbv
  go_loopw [0, 6] (fun sv iv wr => ∃ (l : List UInt8) (i : Nat) (m : List Ln), sv = .string ⟨l.toArray⟩ ∧ iv = .int .i64 i ∧ RdInv w wr p b q m (lastOr m) ∧ Left R l i m) (fun sv _ _ => szOf sv)
  case atStart => exact ⟨l0, 0, [], rfl, rfl, hI', hL⟩
  case round =>
    clear hz hz' hL hI'
    obtain ⟨l, i, m, rfl, rfl, hI, hl⟩ := hrel
    by_cases hne : l = []
    · subst hne
      have hR := hl.done
      have HR : Hid (R = (m, 0, 0)) := hR
      clear hR hl
      go_wp2
      go_ret2
      exact ⟨Or.inl ⟨by rw [HR.out], _, _, rfl, hI.hp, hI.hb, by rw [HR.out]; exact hI.st⟩, hI.bl⟩
    · have hlen := hl.len
      have hsz : (⟨l.toArray⟩ : ByteArray).size ≤ 20000 := by rw [mk_size]; omega
      have e3 := isEmpty_of (⟨l.toArray⟩ : ByteArray) (by rw [mk_size]; exact List.length_pos_iff.2 hne)
      have hcut := scut_any ⟨l.toArray⟩ 10 wr (by unfold maxLen; omega)
      rw [bytes_toList] at hcut
      have hi63 : (i : Int) + 1 ≤ 9223372036854775807 := by omega
      cases hh : has 10 l with
      | false =>
        have HR : Hid (R = ([], 1, i)) := hl.cut hh hne
        have ecA : cutA 10 l = l := by unfold cutA; rw [hh]; rfl
        rw [hh, ecA] at hcut
        have hrl := fun w3 (hb : Below w.heap.size w w3) => kline_cut ⟨l.toArray⟩ w3 s (by omega) (HS.out w3 hb).three
        unfold agN zeroN zeroP at hrl
        simp only at hrl
        have HC : Hid (Calls Tryd.prog 47 _ _ _) := hcut
        have HI : Hid (RdInv w wr p b q m (lastOr m)) := hI
        clear hcut hl hI ecA hh hne
        generalize (⟨(cutB 10 l).toArray⟩ : ByteArray) = zB at *
        generalize (⟨l.toArray⟩ : ByteArray) = zL at *
        go_wp2_with (first
          | (go_at_call 47; refine HC.out.mono ?_; rintro e w3 ⟨rfl, n, rfl⟩; have hI3 := HI.out.later (below_drewN (Below.refl _ wr) n))
          | (go_at_call 48; refine (hrl _ hI3.bl).mono ?_; rintro e w4 ⟨rfl, hb4⟩; have hI4 := hI3.later hb4))
        go_ret2
        refine ⟨Or.inr ⟨by rw [HR.out]; exact Nat.one_ne_zero, _, rfl, ?_, by rw [HR.out]; simp, by rw [HR.out]; simp⟩, ?_⟩
        · have := hI4.bl.size; simp; omega
        · exact (hI4.bl.alloc hI4.bl.size _).alloc (by have := hI4.bl.size; simp; omega) _
      | true =>
        have ecA : cutA 10 l = pre 10 l := cutA_yes hh
        have ecB : cutB 10 l = post 10 l := cutB_yes hh
        rw [hh, ecA, ecB] at hcut
        have hple := pre_length_le 10 l
        have hsp : (⟨(pre 10 l).toArray⟩ : ByteArray).size ≤ 20000 := by rw [mk_size]; omega
        have hrl := fun w3 (hb : Below w.heap.size w w3) => kline_any ⟨(pre 10 l).toArray⟩ w3 s (by omega) (HS.out w3 hb).three
        rw [bytes_toList] at hrl
        have HC : Hid (Calls Tryd.prog 47 _ _ _) := hcut
        have HI : Hid (RdInv w wr p b q m (lastOr m)) := hI
        by_cases hln : lnErr (pre 10 l) = 0
        · have ern : readN (pre 10 l) = (lnOf (pre 10 l), 0) := by unfold readN; rw [if_pos hln]
          rw [ern, errP_zero] at hrl
          have hok := (lnOf_facts hln).1
          have hpb := fun w3 (hst : IsStock w3 p b m) (h6 : Six w3 s) => putB_any (lastOr m) (lnOf (pre 10 l)) w3 s p b m hst (by have := name_short (okP_bounds hok.1).1; unfold maxLen; omega) (by have := name_short hok.2.1; unfold maxLen; omega) h6.five h6.order
          rw [behE_step hln] at hpb
          by_cases hs0 : stepE m (pre 10 l) = 0
          · obtain ⟨hl', hpl⟩ := hl.good hh hs0
            rw [behL_step hs0, hs0, errP_zero] at hpb
            have hlast := lastOr_step hl.wf.sorted hs0
            have HL' : Hid (Left R (post 10 l) (i + 1) (stepM m (pre 10 l))) := hl'
            have HLa : Hid (lastOr (stepM m (pre 10 l)) = lnOf (pre 10 l)) := hlast
            have HPL : Hid ((post 10 l).length < l.length) := hpl
            clear hcut hl hI ecA ecB hh hne hl' hlast hpl hok ern hln hs0 hple hsp
            generalize stepM m (pre 10 l) = m' at *
            generalize lnOf (pre 10 l) = x at *
            generalize lastOr m = a at *
            obtain ⟨⟨x0, x1, x2⟩, x3, x4⟩ := x
            obtain ⟨⟨a0, a1, a2⟩, a3, a4⟩ := a
            unfold agN at hrl hpb
            simp only at hrl hpb
            have HZB : Hid (szOf (.string (⟨(post 10 l).toArray⟩ : ByteArray)) < szOf (.string (⟨l.toArray⟩ : ByteArray))) := by show _ < _; rw [szOf_list, szOf_list]; exact HPL.out
            generalize (⟨(pre 10 l).toArray⟩ : ByteArray) = zA at *
            obtain ⟨zB, hzB⟩ : ∃ zB : ByteArray, zB = ⟨(post 10 l).toArray⟩ := ⟨_, rfl⟩
            have HZ : Hid (zB = ⟨(post 10 l).toArray⟩) := hzB
            rw [← hzB] at HC HZB
            clear hzB
            generalize (⟨l.toArray⟩ : ByteArray) = zL at *
            go_wp2_with (first
              | (go_at_call 47; refine HC.out.mono ?_; rintro e w3 ⟨rfl, n, rfl⟩; have hI3 := HI.out.later (below_drewN (Below.refl _ wr) n))
              | (go_at_call 48; refine (hrl _ hI3.bl).mono ?_; rintro e w4 ⟨rfl, hb4⟩; have hI4 := hI3.later hb4; have hI5 := hI4.later ((Below.refl _ w4).alloc (Nat.le_refl _) (.cells #[.string x0, .int .i64 x1, .int .i64 x2, .string x3, .int .i64 x4] 81)); obtain ⟨k0, k1, k2, k3, k4⟩ := hI5.ah.line; obtain ⟨n0, n1, n2, n3, n4⟩ := LineAt.new w4 ((x0, x1, x2), x3, x4) 81 _ rfl; simp only [Nat.zero_add] at k0 k1 k2 k3 k4 n0 n1 n2 n3 n4)
              | (go_at_call 49; refine (hpb _ hI5.st (HS.out _ hI5.bl)).mono ?_; rintro e w6 ⟨rfl, hi6, hg6⟩; have hI6 := hI5.grown hg6 hi6; obtain ⟨j0, j1, j2, j3, j4⟩ := hI6.ah.line; have hf6 := hI6.ah.frozen; obtain ⟨o0, o1, o2, o3, o4⟩ := (LineAt.new w4 ((x0, x1, x2), x3, x4) 81 _ rfl).of_block (hg6.block _ (by simp) (by simp; intro e; have := hI4.st.lt.2; omega)); simp only [Nat.zero_add] at j0 j1 j2 j3 j4 o0 o1 o2 o3 o4))
            go_roundw
            case rel =>
              exact ⟨post 10 l, i + 1, m', by rw [HZ.out], by go_num, by rw [HLa.out]; exact hI6.set ((x0, x1, x2), x3, x4), HL'.out⟩
            case measure => exact HZB.out
          · have HR : Hid (R = ([], stepE m (pre 10 l), i)) := hl.bad hh hs0
            have HE : Hid (stepE m (pre 10 l) ≠ 0) := hs0
            rw [behL_err (by rw [behE_step hln]; exact hs0), errP_pos s hs0] at hpb
            clear hcut hl hI ecA ecB hh hne hok ern hln hs0 hple hsp
            generalize stepE m (pre 10 l) = E at *
            generalize lnOf (pre 10 l) = x at *
            generalize lastOr m = a at *
            obtain ⟨⟨x0, x1, x2⟩, x3, x4⟩ := x
            obtain ⟨⟨a0, a1, a2⟩, a3, a4⟩ := a
            unfold agN at hrl hpb
            simp only at hrl hpb
            generalize (⟨(pre 10 l).toArray⟩ : ByteArray) = zA at *
            generalize (⟨(post 10 l).toArray⟩ : ByteArray) = zB at *
            generalize (⟨l.toArray⟩ : ByteArray) = zL at *
            go_wp2_with (first
              | (go_at_call 47; refine HC.out.mono ?_; rintro e w3 ⟨rfl, n, rfl⟩; have hI3 := HI.out.later (below_drewN (Below.refl _ wr) n))
              | (go_at_call 48; refine (hrl _ hI3.bl).mono ?_; rintro e w4 ⟨rfl, hb4⟩; have hI4 := hI3.later hb4; have hI5 := hI4.later ((Below.refl _ w4).alloc (Nat.le_refl _) (.cells #[.string x0, .int .i64 x1, .int .i64 x2, .string x3, .int .i64 x4] 81)); obtain ⟨k0, k1, k2, k3, k4⟩ := hI5.ah.line; obtain ⟨n0, n1, n2, n3, n4⟩ := LineAt.new w4 ((x0, x1, x2), x3, x4) 81 _ rfl; simp only [Nat.zero_add] at k0 k1 k2 k3 k4 n0 n1 n2 n3 n4)
              | (go_at_call 49; refine (hpb _ hI5.st (HS.out _ hI5.bl)).mono ?_; rintro e w6 ⟨rfl, hi6, hg6⟩; have hI6 := hI5.grown hg6 hi6))
            go_ret2
            refine ⟨Or.inr ⟨by rw [HR.out]; exact HE.out, _, rfl, ?_, by rw [HR.out]; simp, by rw [HR.out]; simp⟩, ?_⟩
            · have := hI6.bl.size; simp; omega
            · exact hI6.bl.alloc hI6.bl.size _
        · have hs0 : stepE m (pre 10 l) = lnErr (pre 10 l) := by unfold stepE; rw [if_neg hln]
          have HR : Hid (R = ([], lnErr (pre 10 l), i)) := by
            show _ = _
            rw [← hs0]; exact hl.bad hh (by rw [hs0]; exact hln)
          have HE : Hid (lnErr (pre 10 l) ≠ 0) := hln
          have ern : readN (pre 10 l) = (zeroN, lnErr (pre 10 l)) := by unfold readN; rw [if_neg hln]
          rw [ern, errP_pos s hln] at hrl
          clear hcut hl hI ecA ecB hh hne ern hln hs0 hple hsp
          generalize lnErr (pre 10 l) = E at *
          unfold agN zeroN zeroP at hrl
          simp only at hrl
          generalize (⟨(pre 10 l).toArray⟩ : ByteArray) = zA at *
          generalize (⟨(post 10 l).toArray⟩ : ByteArray) = zB at *
          generalize (⟨l.toArray⟩ : ByteArray) = zL at *
          go_wp2_with (first
            | (go_at_call 47; refine HC.out.mono ?_; rintro e w3 ⟨rfl, n, rfl⟩; have hI3 := HI.out.later (below_drewN (Below.refl _ wr) n))
            | (go_at_call 48; refine (hrl _ hI3.bl).mono ?_; rintro e w4 ⟨rfl, hb4⟩; have hI4 := hI3.later hb4))
          go_ret2
          refine ⟨Or.inr ⟨by rw [HR.out]; exact HE.out, _, rfl, ?_, by rw [HR.out]; simp, by rw [HR.out]; simp⟩, ?_⟩
          · have := hI4.bl.size; simp; omega
          · exact (hI4.bl.alloc hI4.bl.size _).alloc (by have := hI4.bl.size; simp; omega) _
end Go.Proofs.YtiegilnjfadhiabDoor
