/-
  The law LotSorts answers true of one to forty lots.
-/
import Derived.Test.YtdlacmfejlmpdabDoorLSorts
namespace Go.Proofs.YtdlacmfejlmpdabDoor
open Go.RowKit Go.Lib Go.Sort Go.Shelf

theorem flatL_len (d : Array Lo) : (flatK encL 4 d).toList.length = d.size * 4 := by simp
theorem rowL_cells {w : World} {b off : Nat} {d : Array Lo} (h : RowL w b off d) : ∀ j u, (flatK encL 4 d).toList[j]? = some u → w.cell? ((⟨b, off, none⟩ : Addr).add j) = some u := by
  intro j u hj
  obtain ⟨hj', hu⟩ := List.getElem?_eq_some_iff.1 hj
  have hj2 : j < d.size * 4 := by simpa using hj'
  rw [Go.WideShapes.add_plain, h j hj2, getElem!_pos _ j (by rw [size_flatK]; exact hj2)]
  rw [← hu]; simp
theorem ownL_row {w : World} {base g cap n : Nat} {d : Array Lo} (hn : d.size = n) (h : w.ownsRow base 23 4 (.slice (some ⟨g, 0, none⟩) (0 + n) cap) (0 + n) ([] ++ (flatK encL 4 d).toList)) : RowL w g 0 d := by
  subst hn
  simp only [Nat.zero_add, List.nil_append] at h
  exact RowL.of_holds (ownL_holds h)
set_option maxRecDepth 100000 in
set_option maxHeartbeats 8000000 in
theorem sorts_some (b off c : Nat) (d : Array Lo) (w : World) (s : Nat → Addr) (hs : Two w s) (hp : Pow w) (h1 : 1 ≤ d.size) (h40 : d.size ≤ 40) (hr : RowL w b off d) :
    Calls Tryd.prog 4 #[.slice (some ⟨b, off, none⟩) d.size c] w fun e w' => e = .returned (.bool true) ∧ Below w.heap.size w w' := by
  obtain ⟨i0, hi, hz0, hz1, hz2⟩ := info_parts Tryd.infoLo
  have ht := lotted_any w s hs hp
  have HT : Hid (Calls Tryd.prog 5 _ _ _) := ht
  have HR : Hid (RowL w b off d) := hr
  have hW : ∀ (dd : Array Lo) (g0 c0 : Nat) (w2 : World), dd.size = d.size → RowL w2 g0 0 dd → Calls Tryd.prog 17 #[.slice (some ⟨g0, 0, none⟩) d.size c0] w2 fun e w' => ∃ g cap d', e = .returned (.slice (some ⟨g, 0, none⟩) d.size cap) ∧ w2.heap.size ≤ g ∧ Stably d.size dd d' ∧ HoldsK encL 4 w' g 0 d' ∧ Below w2.heap.size w2 w' := fun dd g0 c0 w2 he h => by
    have := sorted_some g0 0 c0 dd w2 (by omega) h
    rw [he] at this; exact this
  have HW1 : Hid (∀ (dd : Array Lo) (g0 c0 : Nat) (w2 : World), dd.size = d.size → RowL w2 g0 0 dd → Calls Tryd.prog 17 #[.slice (some ⟨g0, 0, none⟩) d.size c0] w2 fun e w' => ∃ g cap d', e = .returned (.slice (some ⟨g, 0, none⟩) d.size cap) ∧ w2.heap.size ≤ g ∧ Stably d.size dd d' ∧ HoldsK encL 4 w' g 0 d' ∧ Below w2.heap.size w2 w') := hW
  have HW2 := HW1
  clear ht hs hp hr hW
  generalize hn : d.size = n at *
  go_enter Tryd.func4, Tryd.ntmps4
  go_wp2_with (first
    | (go_at_call 5; refine HT.out.mono ?_; rintro e w1 ⟨rfl, hb⟩; have hr1 : Hid (RowL w1 b off d) := HR.out.below hb)
    | (at_builtin; refine wpList_append_lies _ rfl (.tmp 20) (.tmp 21) 40 rfl w.heap.size 23 i0 (.agg #[.string ⟨#[]⟩, .string ⟨#[]⟩, .int .i64 0, .int .i64 0]) 4 48 Tryd.underlying40 hi hz0 hz1 hz2 rfl (by decide) (.slice none 0 0) 0 [] rfl (World.ownsRow_nil _ _ _ _) ⟨b, off, none⟩ n c (flatK encL 4 d).toList rfl (by rw [flatL_len, hn]) (rowL_cells hr1.out) (flatL_one d) (by omega) (by unfold maxLen; omega) (by omega) hb.size w1.heap.size rfl ?_; intro g0 c0 w2 hown hgrow hlies hlt0; have hb2 : Below w.heap.size w w2 := hb.grown (row := none) hgrow hb.size (fun k hk => by cases hk); have hr2 : Hid (RowL w2 g0 0 d) := ownL_row hn hown; have hra : Hid (RowL w2 b off d) := hr1.out.below ((Below.refl _ w1).grown (row := none) hgrow (Nat.le_refl _) (fun k hk => by cases hk)); clear hown hgrow hlies)
    | (go_at_call 17; refine (HW1.out d _ _ _ hn hr2.out).mono ?_; clear HW1; rintro e w3 ⟨g, cap, d', rfl, hg, hst, hH, hb3⟩; have ro : Hid (RowL w3 g0 0 d) := hr2.out.below hb3; have rl : Hid (RowL w3 b off d) := hra.out.below hb3; have rw' : Hid (RowL w3 g 0 d') := RowL.of_holds hH; have HP : Hid (Stably n d d') := hst; have hB3 : Below w.heap.size w w3 := hb2.trans (hb3.mono hb2.size); have hn' : Hid (d'.size = n) := (hst.1.1).trans hn; clear hH hst hb3 hr2 hra hr1)
    | (go_at_call 17; refine (HW2.out d' _ _ _ hn'.out rw'.out).mono ?_; clear HW2; rintro e w4 ⟨g2, cap2, d2, rfl, hg2, hst2, hH2, hb4⟩; have ro4 : Hid (RowL w4 g0 0 d) := ro.out.below hb4; have rl4 : Hid (RowL w4 b off d) := rl.out.below hb4; have rw4 : Hid (RowL w4 g 0 d') := rw'.out.below hb4; have hd2 : d2 = d' := hst2.2.2 HP.out.2.1; have rt4 : Hid (RowL w4 g2 0 d') := hd2 ▸ RowL.of_holds hH2; have hB4 : Below w.heap.size w w4 := hB3.trans (hb4.mono hB3.size); clear hH2 hst2 hb4 hd2 ro rl rw'))
  have HN : Hid (d.size = n) := hn
  clear hn hb hb2 hg hg2 hlt0 HT HR hB3
  go_loopw [7] (fun i wr => ∃ k : Nat, k ≤ n ∧ i = .int .i64 k ∧ Below w4.heap.size w4 wr) (fun i _ => n - (RowKit.intOf i).toNat)
  case atStart => exact ⟨0, Nat.zero_le _, rfl, Below.refl _ _⟩
  case round =>
    obtain ⟨k, hk, rfl, hwr⟩ := hrel
    by_cases hlt : k < n
    · have rwk := (rw4.out.below hwr).cells (j := k) (by rw [hn'.out]; exact hlt)
      have rtk := (rt4.out.below hwr).cells (j := k) (by rw [hn'.out]; exact hlt)
      have rok := (ro4.out.below hwr).cells (j := k) (by rw [HN.out]; exact hlt)
      have rlk := (rl4.out.below hwr).cells (j := k) (by rw [HN.out]; exact hlt)
      simp only [Nat.zero_add] at rwk rtk rok
      have HA : Hid (∀ j, j < k → soonL d'[k]! d'[j]! = false) := fun j hj => HP.out.2.1 j k (Nat.zero_le _) hj hlt
      generalize d'[k]! = e at rwk rtk HA
      obtain ⟨ea, ec, eu, ek⟩ := e
      generalize hdk : d[k]! = f at rok rlk
      have HKf : Hid (d[k]! = f) := hdk
      clear hdk
      obtain ⟨fa, fc, fu, fk⟩ := f
      have HK : Hid (d[k]! = (fa, fc, fu, fk)) := HKf
      clear HKf
      have EF := fun w => eqL_of (x := (fa, fc, fu, fk)) rfl w
      have EE := fun w => eqL_of (x := (ea, ec, eu, ek)) rfl w
      have hG := Tryd.guardL
      obtain ⟨c0, c1, c2, c3⟩ := rwk
      obtain ⟨s0, s1, s2, s3⟩ := rtk
      obtain ⟨o0, o1, o2, o3⟩ := rok
      obtain ⟨l0, l1, l2, l3⟩ := rlk
      simp only at c0 c1 c2 c3 s0 s1 s2 s3 o0 o1 o2 o3 l0 l1 l2 l3 EF EE
      by_cases hk0 : k ≤ 0
      · have hkp : decide ((k : Int) > 0) = false := decide_eq_false (by omega)
        have hkz : ¬ (0 : Int) < (k : Int) := by omega
        have hkn : decide (0 < k) = false := decide_eq_false (by omega)
        have hkm : ¬ 0 < k := by omega
        go_wp2
        go_quiet (fail)
        go_wp2
        have hV : Below w4.heap.size w4 (wr.drewN nq) := below_drewN hwr nq
        clear c0 c1 c2 c3 s0 s1 s2 s3 o0 o1 o2 o3 l0 l1 l2 l3 EF EE hwr
        generalize wr.drewN nq = V at hV ⊢
        go_loopw [8, 9, 10] (fun x y j wr2 => ∃ t : Nat, t ≤ n ∧ j = .int .i64 t ∧ x = .int .i64 (cntL (fa, fc, fu, fk) d' t) ∧ y = .int .i64 (cntL (fa, fc, fu, fk) d t) ∧ Below w4.heap.size w4 wr2) (fun _ _ j _ => n - (RowKit.intOf j).toNat)
        case atStart => exact ⟨0, Nat.zero_le _, rfl, rfl, rfl, hV⟩
        case round =>
          obtain ⟨t, ht, rfl, rfl, rfl, hwr2⟩ := hrel
          have b1 := cntL_le (fa, fc, fu, fk) d' t
          have b2 := cntL_le (fa, fc, fu, fk) d t
          by_cases htn : t < n
          · have xf := (rl4.out.below hwr2).cells (j := k) (by rw [HN.out]; exact hlt)
            rw [HK.out] at xf
            have xt := (rw4.out.below hwr2).cells (j := t) (by rw [hn'.out]; exact htn)
            have xl := (rl4.out.below hwr2).cells (j := t) (by rw [HN.out]; exact htn)
            have S1 : Hid (d'[t]! = (fa, fc, fu, fk) → cntL (fa, fc, fu, fk) d' (t + 1) = cntL (fa, fc, fu, fk) d' t + 1) := cntL_hit (by rw [hn'.out]; exact htn)
            have S2 : Hid (d'[t]! ≠ (fa, fc, fu, fk) → cntL (fa, fc, fu, fk) d' (t + 1) = cntL (fa, fc, fu, fk) d' t) := cntL_miss (by rw [hn'.out]; exact htn)
            have S3 : Hid (d[t]! = (fa, fc, fu, fk) → cntL (fa, fc, fu, fk) d (t + 1) = cntL (fa, fc, fu, fk) d t + 1) := cntL_hit (by rw [HN.out]; exact htn)
            have S4 : Hid (d[t]! ≠ (fa, fc, fu, fk) → cntL (fa, fc, fu, fk) d (t + 1) = cntL (fa, fc, fu, fk) d t) := cntL_miss (by rw [HN.out]; exact htn)
            simp only [Nat.zero_add] at xt
            generalize d'[t]! = p at xt S1 S2
            generalize d[t]! = q at xl S3 S4
            obtain ⟨xf0, xf1, xf2, xf3⟩ := xf
            obtain ⟨xt0, xt1, xt2, xt3⟩ := xt
            obtain ⟨xl0, xl1, xl2, xl3⟩ := xl
            obtain ⟨pa, pc, pu, pk⟩ := p
            obtain ⟨qa, qc, qu, qk⟩ := q
            simp only at xf0 xf1 xf2 xf3 xt0 xt1 xt2 xt3 xl0 xl1 xl2 xl3
            by_cases e1 : ((pa, pc, pu, pk) : Lo) = (fa, fc, fu, fk)
            · by_cases e2 : ((qa, qc, qu, qk) : Lo) = (fa, fc, fu, fk)
              · have E1 := eqL_of e1
                have T1 : Hid (cntL (fa, fc, fu, fk) d' (t + 1) = cntL (fa, fc, fu, fk) d' t + 1) := S1.out e1
                have E2 := eqL_of e2
                have T2 : Hid (cntL (fa, fc, fu, fk) d (t + 1) = cntL (fa, fc, fu, fk) d t + 1) := S3.out e2
                clear S1 S2 S3 S4 e1 e2
                simp only at E1 E2
                go_wp2
                go_quiet (fail)
                go_wp2
                go_quiet (fail)
                go_wp2
                go_roundw
                case rel => exact ⟨t + 1, by omega, by go_num, by rw [T1.out]; go_num, by rw [T2.out]; go_num, below_drewN hwr2 _⟩
                case measure => simp [RowKit.intOf]; omega
              · have E1 := eqL_of e1
                have T1 : Hid (cntL (fa, fc, fu, fk) d' (t + 1) = cntL (fa, fc, fu, fk) d' t + 1) := S1.out e1
                have E2 := eqL_not e2
                have T2 : Hid (cntL (fa, fc, fu, fk) d (t + 1) = cntL (fa, fc, fu, fk) d t ) := S4.out e2
                clear S1 S2 S3 S4 e1 e2
                simp only at E1 E2
                go_wp2
                go_quiet (fail)
                go_wp2
                go_quiet (fail)
                go_wp2
                go_roundw
                case rel => exact ⟨t + 1, by omega, by go_num, by rw [T1.out]; go_num, by rw [T2.out], below_drewN hwr2 _⟩
                case measure => simp [RowKit.intOf]; omega
            · by_cases e2 : ((qa, qc, qu, qk) : Lo) = (fa, fc, fu, fk)
              · have E1 := eqL_not e1
                have T1 : Hid (cntL (fa, fc, fu, fk) d' (t + 1) = cntL (fa, fc, fu, fk) d' t ) := S2.out e1
                have E2 := eqL_of e2
                have T2 : Hid (cntL (fa, fc, fu, fk) d (t + 1) = cntL (fa, fc, fu, fk) d t + 1) := S3.out e2
                clear S1 S2 S3 S4 e1 e2
                simp only at E1 E2
                go_wp2
                go_quiet (fail)
                go_wp2
                go_quiet (fail)
                go_wp2
                go_roundw
                case rel => exact ⟨t + 1, by omega, by go_num, by rw [T1.out], by rw [T2.out]; go_num, below_drewN hwr2 _⟩
                case measure => simp [RowKit.intOf]; omega
              · have E1 := eqL_not e1
                have T1 : Hid (cntL (fa, fc, fu, fk) d' (t + 1) = cntL (fa, fc, fu, fk) d' t ) := S2.out e1
                have E2 := eqL_not e2
                have T2 : Hid (cntL (fa, fc, fu, fk) d (t + 1) = cntL (fa, fc, fu, fk) d t ) := S4.out e2
                clear S1 S2 S3 S4 e1 e2
                simp only at E1 E2
                go_wp2
                go_quiet (fail)
                go_wp2
                go_quiet (fail)
                go_wp2
                go_roundw
                case rel => exact ⟨t + 1, by omega, by go_num, by rw [T1.out], by rw [T2.out], below_drewN hwr2 _⟩
                case measure => simp [RowKit.intOf]; omega
          · have htn' : t = n := by omega
            have hcn : cntL (fa, fc, fu, fk) d' t = cntL (fa, fc, fu, fk) d t := by
              have := HN.out
              have hp := HP.out.1
              rw [htn']
              rw [← this] at hp ⊢
              exact cntL_perm hp
            clear htn'
            go_wp2
            go_roundw
            case rel => exact ⟨k + 1, by omega, by go_num, hwr2⟩
            case measure => simp [RowKit.intOf]; omega
      · obtain ⟨m, hm⟩ : ∃ m, k = m + 1 := ⟨k - 1, by omega⟩
        have HM : Hid (k = m + 1) := hm
        have hmn : m < n := by omega
        have hk1 : (k : Int) - 1 = (m : Int) := by omega
        have hkp : decide ((k : Int) > 0) = true := decide_eq_true (by omega)
        have hkz : (0 : Int) < (k : Int) := by omega
        have hkn : decide (0 < k) = true := decide_eq_true (by omega)
        have hkm : 0 < k := by omega
        have hwm : IntKind.i64.wrap (m : Int) = (m : Int) := by rw [IntKind.wrap_i64]; omega
        clear hm
        have rp := (rw4.out.below hwr).cells (j := m) (by rw [hn'.out]; exact hmn)
        have HAk := HA.out m (by have := HM.out; omega)
        simp only [Nat.zero_add] at rp
        generalize d'[m]! = pv at rp HAk
        obtain ⟨va, vc, vu, vk⟩ := pv
        have hIA := fun w1 => sooner_any (ea, ec, eu, ek) (va, vc, vu, vk) w1
        rw [HAk] at hIA
        unfold agL at hIA
        obtain ⟨r0, r1, r2, r3⟩ := rp
        simp only at r0 r1 r2 r3 hIA
        go_wp2
        have x0 := cell_regrown c0
        have x1 := cell_regrown c1
        have x2 := cell_regrown c2
        have x3 := cell_regrown c3
        have x4 := cell_regrown r0
        have x5 := cell_regrown r1
        have x6 := cell_regrown r2
        have x7 := cell_regrown r3
        have x8 := cell_regrown s0
        have x9 := cell_regrown s1
        have xa := cell_regrown s2
        have xb := cell_regrown s3
        have xc := cell_regrown o0
        have xd := cell_regrown o1
        have xe := cell_regrown o2
        have xg := cell_regrown o3
        have xh := cell_regrown l0
        have xi := cell_regrown l1
        have xj := cell_regrown l2
        have xk := cell_regrown l3
        have cIA := fun d os => Calls.regrown_of (w := wr) (d := d) (os := os) (hIA _)
        refine wp_region_quiet_below (by kernel_rfl) (by kernel_rfl) ?_
        repeat (quiet_step (first | (go_at_call 15; exact cIA _ _)))
        refine wpQuiet_nil ?_
        intro _ hw'
        obtain ⟨⟨dq, osq⟩, hw''⟩ := hw'
        subst hw''
        have hV : Below w4.heap.size w4 (grow (redrawn wr dq) osq) := hwr.trans ((below_regrown wr dq osq).mono hwr.size)
        clear x0 x1 x2 x3 x4 x5 x6 x7 x8 x9 xa xb xc xd xe xg xh xi xj xk cIA hIA c0 c1 c2 c3 s0 s1 s2 s3 o0 o1 o2 o3 l0 l1 l2 l3 r0 r1 r2 r3 EF EE hk1 hwm HAk hwr
        generalize grow (redrawn wr dq) osq = V at hV ⊢
        go_wp2
        go_loopw [8, 9, 10] (fun x y j wr2 => ∃ t : Nat, t ≤ n ∧ j = .int .i64 t ∧ x = .int .i64 (cntL (fa, fc, fu, fk) d' t) ∧ y = .int .i64 (cntL (fa, fc, fu, fk) d t) ∧ Below w4.heap.size w4 wr2) (fun _ _ j _ => n - (RowKit.intOf j).toNat)
        case atStart => exact ⟨0, Nat.zero_le _, rfl, rfl, rfl, hV⟩
        case round =>
          obtain ⟨t, ht, rfl, rfl, rfl, hwr2⟩ := hrel
          have b1 := cntL_le (fa, fc, fu, fk) d' t
          have b2 := cntL_le (fa, fc, fu, fk) d t
          by_cases htn : t < n
          · have xf := (rl4.out.below hwr2).cells (j := k) (by rw [HN.out]; exact hlt)
            rw [HK.out] at xf
            have xt := (rw4.out.below hwr2).cells (j := t) (by rw [hn'.out]; exact htn)
            have xl := (rl4.out.below hwr2).cells (j := t) (by rw [HN.out]; exact htn)
            have S1 : Hid (d'[t]! = (fa, fc, fu, fk) → cntL (fa, fc, fu, fk) d' (t + 1) = cntL (fa, fc, fu, fk) d' t + 1) := cntL_hit (by rw [hn'.out]; exact htn)
            have S2 : Hid (d'[t]! ≠ (fa, fc, fu, fk) → cntL (fa, fc, fu, fk) d' (t + 1) = cntL (fa, fc, fu, fk) d' t) := cntL_miss (by rw [hn'.out]; exact htn)
            have S3 : Hid (d[t]! = (fa, fc, fu, fk) → cntL (fa, fc, fu, fk) d (t + 1) = cntL (fa, fc, fu, fk) d t + 1) := cntL_hit (by rw [HN.out]; exact htn)
            have S4 : Hid (d[t]! ≠ (fa, fc, fu, fk) → cntL (fa, fc, fu, fk) d (t + 1) = cntL (fa, fc, fu, fk) d t) := cntL_miss (by rw [HN.out]; exact htn)
            simp only [Nat.zero_add] at xt
            generalize d'[t]! = p at xt S1 S2
            generalize d[t]! = q at xl S3 S4
            obtain ⟨xf0, xf1, xf2, xf3⟩ := xf
            obtain ⟨xt0, xt1, xt2, xt3⟩ := xt
            obtain ⟨xl0, xl1, xl2, xl3⟩ := xl
            obtain ⟨pa, pc, pu, pk⟩ := p
            obtain ⟨qa, qc, qu, qk⟩ := q
            simp only at xf0 xf1 xf2 xf3 xt0 xt1 xt2 xt3 xl0 xl1 xl2 xl3
            by_cases e1 : ((pa, pc, pu, pk) : Lo) = (fa, fc, fu, fk)
            · by_cases e2 : ((qa, qc, qu, qk) : Lo) = (fa, fc, fu, fk)
              · have E1 := eqL_of e1
                have T1 : Hid (cntL (fa, fc, fu, fk) d' (t + 1) = cntL (fa, fc, fu, fk) d' t + 1) := S1.out e1
                have E2 := eqL_of e2
                have T2 : Hid (cntL (fa, fc, fu, fk) d (t + 1) = cntL (fa, fc, fu, fk) d t + 1) := S3.out e2
                clear S1 S2 S3 S4 e1 e2
                simp only at E1 E2
                go_wp2
                go_quiet (fail)
                go_wp2
                go_quiet (fail)
                go_wp2
                go_roundw
                case rel => exact ⟨t + 1, by omega, by go_num, by rw [T1.out]; go_num, by rw [T2.out]; go_num, below_drewN hwr2 _⟩
                case measure => simp [RowKit.intOf]; omega
              · have E1 := eqL_of e1
                have T1 : Hid (cntL (fa, fc, fu, fk) d' (t + 1) = cntL (fa, fc, fu, fk) d' t + 1) := S1.out e1
                have E2 := eqL_not e2
                have T2 : Hid (cntL (fa, fc, fu, fk) d (t + 1) = cntL (fa, fc, fu, fk) d t ) := S4.out e2
                clear S1 S2 S3 S4 e1 e2
                simp only at E1 E2
                go_wp2
                go_quiet (fail)
                go_wp2
                go_quiet (fail)
                go_wp2
                go_roundw
                case rel => exact ⟨t + 1, by omega, by go_num, by rw [T1.out]; go_num, by rw [T2.out], below_drewN hwr2 _⟩
                case measure => simp [RowKit.intOf]; omega
            · by_cases e2 : ((qa, qc, qu, qk) : Lo) = (fa, fc, fu, fk)
              · have E1 := eqL_not e1
                have T1 : Hid (cntL (fa, fc, fu, fk) d' (t + 1) = cntL (fa, fc, fu, fk) d' t ) := S2.out e1
                have E2 := eqL_of e2
                have T2 : Hid (cntL (fa, fc, fu, fk) d (t + 1) = cntL (fa, fc, fu, fk) d t + 1) := S3.out e2
                clear S1 S2 S3 S4 e1 e2
                simp only at E1 E2
                go_wp2
                go_quiet (fail)
                go_wp2
                go_quiet (fail)
                go_wp2
                go_roundw
                case rel => exact ⟨t + 1, by omega, by go_num, by rw [T1.out], by rw [T2.out]; go_num, below_drewN hwr2 _⟩
                case measure => simp [RowKit.intOf]; omega
              · have E1 := eqL_not e1
                have T1 : Hid (cntL (fa, fc, fu, fk) d' (t + 1) = cntL (fa, fc, fu, fk) d' t ) := S2.out e1
                have E2 := eqL_not e2
                have T2 : Hid (cntL (fa, fc, fu, fk) d (t + 1) = cntL (fa, fc, fu, fk) d t ) := S4.out e2
                clear S1 S2 S3 S4 e1 e2
                simp only at E1 E2
                go_wp2
                go_quiet (fail)
                go_wp2
                go_quiet (fail)
                go_wp2
                go_roundw
                case rel => exact ⟨t + 1, by omega, by go_num, by rw [T1.out], by rw [T2.out], below_drewN hwr2 _⟩
                case measure => simp [RowKit.intOf]; omega
          · have htn' : t = n := by omega
            have hcn : cntL (fa, fc, fu, fk) d' t = cntL (fa, fc, fu, fk) d t := by
              have := HN.out
              have hp := HP.out.1
              rw [htn']
              rw [← this] at hp ⊢
              exact cntL_perm hp
            clear htn'
            go_wp2
            go_roundw
            case rel => exact ⟨k + 1, by omega, by go_num, hwr2⟩
            case measure => simp [RowKit.intOf]; omega
    · go_wp2
      go_ret
      exact ⟨rfl, hB4.trans (hwr.mono hB4.size)⟩
end Go.Proofs.YtdlacmfejlmpdabDoor
