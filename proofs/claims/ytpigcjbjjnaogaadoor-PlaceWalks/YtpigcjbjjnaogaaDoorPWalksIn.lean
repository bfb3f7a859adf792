/-
  The law PlaceWalks answers true of one to forty places.
-/
import Derived.Test.YtpigcjbjjnaogaaDoorPWalks
namespace Go.Proofs.YtpigcjbjjnaogaaDoor
open Go.RowKit Go.Lib Go.Sort Go.Shelf

theorem eq_yes (x : Pl) (w : World) : (Op.equalIn 10000 47 (.agg #[.string x.1, .int .i64 x.2.1, .int .i64 x.2.2]) (.agg #[.string x.1, .int .i64 x.2.1, .int .i64 x.2.2])).run Tryd.prog w = .ok true w := by
  rw [eqP_run]; simp
theorem eq_of {x y : Pl} (h : x = y) (w : World) : (Op.equalIn 10000 47 (.agg #[.string x.1, .int .i64 x.2.1, .int .i64 x.2.2]) (.agg #[.string y.1, .int .i64 y.2.1, .int .i64 y.2.2])).run Tryd.prog w = .ok true w := by
  rw [eqP_run]; simp [h]
theorem eq_not {x y : Pl} (h : x ≠ y) (w : World) : (Op.equalIn 10000 47 (.agg #[.string x.1, .int .i64 x.2.1, .int .i64 x.2.2]) (.agg #[.string y.1, .int .i64 y.2.1, .int .i64 y.2.2])).run Tryd.prog w = .ok false w := by
  rw [eqP_run]
  have : ¬ ((x.1, x.2.1, x.2.2) = (y.1, y.2.1, y.2.2)) := h
  rw [decide_eq_false this]
theorem flat_len (d : Array Pl) : (flatK encP 3 d).toList.length = d.size * 3 := by simp
theorem row_cells {w : World} {b off : Nat} {d : Array Pl} (h : RowP w b off d) : ∀ j u, (flatK encP 3 d).toList[j]? = some u → w.cell? ((⟨b, off, none⟩ : Addr).add j) = some u := by
  intro j u hj
  obtain ⟨hj', hu⟩ := List.getElem?_eq_some_iff.1 hj
  have hj2 : j < d.size * 3 := by simpa using hj'
  rw [Go.WideShapes.add_plain, h j hj2, getElem!_pos _ j (by rw [size_flatK]; exact hj2)]
  rw [← hu]; simp

theorem own_row {w : World} {base g cap n : Nat} {d : Array Pl} (hn : d.size = n) (h : w.ownsRow base 47 3 (.slice (some ⟨g, 0, none⟩) (0 + n) cap) (0 + n) ([] ++ (flatK encP 3 d).toList)) : RowP w g 0 d := by
  subst hn
  simp only [Nat.zero_add, List.nil_append] at h
  exact RowP.of_holds (own_holds h)
theorem perm_mem {d d' : Array Pl} {n k : Nat} (h : PermIn 0 n d d') (hn : d.size = n) (hk : k < n) : ∃ j, j < n ∧ d'[k]! = d[j]! := by
  obtain ⟨hs, _, hp⟩ := h
  have hm : d'[k]! ∈ (d'.extract 0 n).toList := by
    have e1 : (d'.extract 0 n).toList = d'.toList.take n := by simp
    rw [e1, getElem!_pos d' k (by omega), List.take_of_length_le (by simp; omega)]
    simp
  have hm2 := hp.mem_iff.1 hm
  rw [Array.mem_toList_iff, Array.mem_extract_iff_getElem] at hm2
  obtain ⟨j, hj, hx⟩ := hm2
  refine ⟨j, by omega, ?_⟩
  rw [getElem!_pos d j (by omega)]
  simpa using hx.symm
set_option maxRecDepth 100000 in
set_option maxHeartbeats 8000000 in
theorem walks_some (b off c : Nat) (d : Array Pl) (w : World) (s : Nat → Addr) (hs : Two w s) (hp : Pow w) (h1 : 1 ≤ d.size) (h40 : d.size ≤ 40) (hr : RowP w b off d) (hzs : ∀ i, i < d.size → d[i]!.1.size ≤ maxLen) :
    Calls Tryd.prog 8 #[.slice (some ⟨b, off, none⟩) d.size c] w fun e w' => e = .returned (.bool true) ∧ Below w.heap.size w w' := by
  obtain ⟨i0, hi, hz0, hz1, hz2⟩ := info_parts Tryd.infoPl
  have ht := walked_any w s hs hp
  have HT : Hid (Calls Tryd.prog 22 _ _ _) := ht
  have HR : Hid (RowP w b off d) := hr
  have HW : Hid (∀ (g0 c0 : Nat) (w2 : World), RowP w2 g0 0 d → Calls Tryd.prog 33 #[.slice (some ⟨g0, 0, none⟩) d.size c0] w2 fun e w' => ∃ g cap d', e = .returned (.slice (some ⟨g, 0, none⟩) d.size cap) ∧ w2.heap.size ≤ g ∧ PermIn 0 d.size d d' ∧ SortedIn aheadP 0 d.size d' ∧ HoldsK encP 3 w' g 0 d' ∧ Below w2.heap.size w2 w') := fun g0 c0 w2 h => walk_some g0 0 c0 d w2 (by omega) h
  clear ht hs hp hr
  have HZ : Hid (∀ i, i < d.size → d[i]!.1.size ≤ maxLen) := hzs
  clear hzs
  generalize hn : d.size = n at *
  go_enter Tryd.func8, Tryd.ntmps8
  go_wp2_with (first
    | (go_at_call 22; refine HT.out.mono ?_; rintro e w1 ⟨rfl, hb⟩; have hr1 : Hid (RowP w1 b off d) := HR.out.below hb)
    | (at_builtin; refine wpList_append_lies _ rfl (.tmp 20) (.tmp 21) 58 rfl w.heap.size 47 i0 (.agg #[.string ⟨#[]⟩, .int .i64 0, .int .i64 0]) 3 32 Tryd.underlying58 hi hz0 hz1 hz2 rfl (by decide) (.slice none 0 0) 0 [] rfl (World.ownsRow_nil _ _ _ _) ⟨b, off, none⟩ n c (flatK encP 3 d).toList rfl (by rw [flat_len, hn]) (row_cells hr1.out) (flat_one d) (by omega) (by unfold maxLen; omega) (by omega) hb.size w1.heap.size rfl ?_; intro g0 c0 w2 hown hgrow hlies hlt0; have hb2 : Below w.heap.size w w2 := hb.grown (row := none) hgrow hb.size (fun k hk => by cases hk); have hr2 : Hid (RowP w2 g0 0 d) := own_row hn hown; have hra : Hid (RowP w2 b off d) := hr1.out.below ((Below.refl _ w1).grown (row := none) hgrow (Nat.le_refl _) (fun k hk => by cases hk)); clear hown hgrow hlies)
    | (go_at_call 33; refine (HW.out _ _ _ hr2.out).mono ?_; rintro e w3 ⟨g, cap, d', rfl, hg, hpm, hso, hH, hb3⟩; have ro : Hid (RowP w3 g0 0 d) := hr2.out.below hb3; have rl : Hid (RowP w3 b off d) := hra.out.below hb3; have rw' : Hid (RowP w3 g 0 d') := RowP.of_holds hH; have HP : Hid (PermIn 0 n d d') := hpm; have HSo : Hid (SortedIn aheadP 0 n d') := hso; have hB3 : Below w.heap.size w w3 := hb2.trans (hb3.mono hb2.size); clear hH hpm hso hb3 hr2 hra hr1))
  have hn' : Hid (d'.size = n) := by show _ = _; rw [HP.out.1]; exact hn
  have HN : Hid (d.size = n) := hn
  clear hn hb hb2 hg hlt0 HT HR HW
  go_loopw [6] (fun i wr => ∃ k : Nat, k ≤ n ∧ i = .int .i64 k ∧ Below w3.heap.size w3 wr) (fun i _ => n - (RowKit.intOf i).toNat)
  case atStart => exact ⟨0, Nat.zero_le _, rfl, Below.refl _ _⟩
  case round =>
    obtain ⟨k, hk, rfl, hwr⟩ := hrel
    by_cases hlt : k < n
    · have rwk := (rw'.out.below hwr).cells (j := k) (by rw [hn'.out]; exact hlt)
      have rok := (ro.out.below hwr).cells (j := k) (by rw [HN.out]; exact hlt)
      have rlk := (rl.out.below hwr).cells (j := k) (by rw [HN.out]; exact hlt)
      simp only [Nat.zero_add] at rwk rok
      have HK : Hid (d'[k]! = d'[k]!) := rfl
      have HA : Hid (∀ j, j < k → aheadP d'[k]! d'[j]! = false) := fun j hj => HSo.out j k (Nat.zero_le _) hj hlt
      have HZk : Hid (d'[k]!.1.size ≤ maxLen) := by
        show _
        obtain ⟨j, hj, hjk⟩ := perm_mem HP.out HN.out hlt
        rw [hjk]; exact HZ.out j hj
      generalize hdk : d'[k]! = e at rwk HA HZk
      have HKe : Hid (d'[k]! = e) := hdk
      clear hdk HK
      obtain ⟨ea, er, eb⟩ := e
      have HK : Hid (d'[k]! = (ea, er, eb)) := HKe
      clear HKe
      generalize d[k]! = f at rok rlk
      obtain ⟨fa, fr, fb⟩ := f
      obtain ⟨c0, c1, c2⟩ := rwk
      obtain ⟨o0, o1, o2⟩ := rok
      obtain ⟨l0, l1, l2⟩ := rlk
      have hzk := HZk.out
      unfold maxLen at hzk
      have EF := eq_yes (fa, fr, fb)
      have hG := Tryd.guardP
      simp only at c0 c1 c2 o0 o1 o2 l0 l1 l2 hzk EF
      by_cases hz30 : 30 < ea.size
      · go_wp2
        go_ret
        exact ⟨rfl, hB3.trans (hwr.mono hB3.size)⟩
      · go_wp2
        go_quiet (fail)
        by_cases hk0 : k ≤ 0
        · go_wp2
          have hV : Below w3.heap.size w3 (wr.drewN nq) := below_drewN hwr nq
          clear c0 c1 c2 o0 o1 o2 l0 l1 l2 EF hwr
          generalize wr.drewN nq = V at hV ⊢
          go_loopw [8, 9, 10] (fun x y j wr2 => ∃ t : Nat, t ≤ n ∧ j = .int .i64 t ∧ x = .int .i64 (cntP (ea, er, eb) d' t) ∧ y = .int .i64 (cntP (ea, er, eb) d t) ∧ Below w3.heap.size w3 wr2) (fun _ _ j _ => n - (RowKit.intOf j).toNat)
          case atStart => exact ⟨0, Nat.zero_le _, rfl, rfl, rfl, hV⟩
          case round =>
            obtain ⟨t, ht, rfl, rfl, rfl, hwr2⟩ := hrel
            have b1 := cntP_le (ea, er, eb) d' t
            have b2 := cntP_le (ea, er, eb) d t
            by_cases htn : t < n
            · have xw := (rw'.out.below hwr2).cells (j := k) (by rw [hn'.out]; exact hlt)
              rw [HK.out] at xw
              have xt := (rw'.out.below hwr2).cells (j := t) (by rw [hn'.out]; exact htn)
              have xl := (rl.out.below hwr2).cells (j := t) (by rw [HN.out]; exact htn)
              have S1 : Hid (d'[t]! = (ea, er, eb) → cntP (ea, er, eb) d' (t + 1) = cntP (ea, er, eb) d' t + 1) := cntP_hit (by rw [hn'.out]; exact htn)
              have S2 : Hid (d'[t]! ≠ (ea, er, eb) → cntP (ea, er, eb) d' (t + 1) = cntP (ea, er, eb) d' t) := cntP_miss (by rw [hn'.out]; exact htn)
              have S3 : Hid (d[t]! = (ea, er, eb) → cntP (ea, er, eb) d (t + 1) = cntP (ea, er, eb) d t + 1) := cntP_hit (by rw [HN.out]; exact htn)
              have S4 : Hid (d[t]! ≠ (ea, er, eb) → cntP (ea, er, eb) d (t + 1) = cntP (ea, er, eb) d t) := cntP_miss (by rw [HN.out]; exact htn)
              simp only [Nat.zero_add] at xw xt
              generalize d'[t]! = p at xt S1 S2
              generalize d[t]! = q at xl S3 S4
              obtain ⟨xw0, xw1, xw2⟩ := xw
              obtain ⟨xt0, xt1, xt2⟩ := xt
              obtain ⟨xl0, xl1, xl2⟩ := xl
              obtain ⟨pa, pr, pb⟩ := p
              obtain ⟨qa, qr, qb⟩ := q
              simp only at xw0 xw1 xw2 xt0 xt1 xt2 xl0 xl1 xl2
              by_cases e1 : ((pa, pr, pb) : Pl) = (ea, er, eb)
              · by_cases e2 : ((qa, qr, qb) : Pl) = (ea, er, eb)
                · have E1 := eq_of e1
                  have T1 : Hid (cntP (ea, er, eb) d' (t + 1) = cntP (ea, er, eb) d' t + 1) := S1.out e1
                  have E2 := eq_of e2
                  have T2 : Hid (cntP (ea, er, eb) d (t + 1) = cntP (ea, er, eb) d t + 1) := S3.out e2
                  clear S1 S2 S3 S4 e1 e2
                  simp only at E1 E2
                  go_wp2
                  go_quiet (fail)
                  go_wp2
                  go_quiet (fail)
                  go_wp2
                  go_roundw
                  case rel => exact ⟨t + 1, by omega, by go_num, by rw [T1.out]; go_num, by rw [T2.out]; go_num, below_drewN hwr2 _⟩
                  case measure => simp [RowKit.intOf]; omega
                · have E1 := eq_of e1
                  have T1 : Hid (cntP (ea, er, eb) d' (t + 1) = cntP (ea, er, eb) d' t + 1) := S1.out e1
                  have E2 := eq_not e2
                  have T2 : Hid (cntP (ea, er, eb) d (t + 1) = cntP (ea, er, eb) d t) := S4.out e2
                  clear S1 S2 S3 S4 e1 e2
                  simp only at E1 E2
                  go_wp2
                  go_quiet (fail)
                  go_wp2
                  go_quiet (fail)
                  go_wp2
                  go_roundw
                  case rel => exact ⟨t + 1, by omega, by go_num, by rw [T1.out]; go_num, by rw [T2.out], below_drewN hwr2 _⟩
                  case measure => simp [RowKit.intOf]; omega
              · by_cases e2 : ((qa, qr, qb) : Pl) = (ea, er, eb)
                · have E1 := eq_not e1
                  have T1 : Hid (cntP (ea, er, eb) d' (t + 1) = cntP (ea, er, eb) d' t) := S2.out e1
                  have E2 := eq_of e2
                  have T2 : Hid (cntP (ea, er, eb) d (t + 1) = cntP (ea, er, eb) d t + 1) := S3.out e2
                  clear S1 S2 S3 S4 e1 e2
                  simp only at E1 E2
                  go_wp2
                  go_quiet (fail)
                  go_wp2
                  go_quiet (fail)
                  go_wp2
                  go_roundw
                  case rel => exact ⟨t + 1, by omega, by go_num, by rw [T1.out], by rw [T2.out]; go_num, below_drewN hwr2 _⟩
                  case measure => simp [RowKit.intOf]; omega
                · have E1 := eq_not e1
                  have T1 : Hid (cntP (ea, er, eb) d' (t + 1) = cntP (ea, er, eb) d' t) := S2.out e1
                  have E2 := eq_not e2
                  have T2 : Hid (cntP (ea, er, eb) d (t + 1) = cntP (ea, er, eb) d t) := S4.out e2
                  clear S1 S2 S3 S4 e1 e2
                  simp only at E1 E2
                  go_wp2
                  go_quiet (fail)
                  go_wp2
                  go_quiet (fail)
                  go_wp2
                  go_roundw
                  case rel => exact ⟨t + 1, by omega, by go_num, by rw [T1.out], by rw [T2.out], below_drewN hwr2 _⟩
                  case measure => simp [RowKit.intOf]; omega
            · have htn' : t = n := by omega
              have hcn : cntP (ea, er, eb) d' t = cntP (ea, er, eb) d t := by
                have := HN.out
                have hp := HP.out
                rw [htn']
                rw [← this] at hp ⊢
                exact cntP_perm hp
              clear htn'
              go_wp2
              go_roundw
              case rel => exact ⟨k + 1, by omega, by go_num, hwr2⟩
              case measure => simp [RowKit.intOf]; omega
        · obtain ⟨m, hm⟩ : ∃ m, k = m + 1 := ⟨k - 1, by omega⟩
          have HM : Hid (k = m + 1) := hm
          have hmn : m < n := by omega
          have hk1 : (k : Int) - 1 = (m : Int) := by omega
          have hwm : IntKind.i64.wrap (m : Int) = (m : Int) := by rw [IntKind.wrap_i64]; omega
          clear hm
          go_wp2
          have hbQ : Below w3.heap.size w3 (wr.drewN nq) := below_drewN hwr nq
          have rp := (rw'.out.below hbQ).cells (j := m) (by rw [hn'.out]; exact hmn)
          have HAk := HA.out m (by have := HM.out; omega)
          simp only [Nat.zero_add] at rp
          generalize d'[m]! = pv at rp HAk
          obtain ⟨va, vr, vb⟩ := pv
          have hIA := fun w1 => isAhead_any (ea, er, eb) (va, vr, vb) w1
          rw [HAk] at hIA
          unfold agP at hIA
          obtain ⟨r0, r1, r2⟩ := rp
          simp only at r0 r1 r2 hIA
          have y0 : (wr.drewN nq).cell? ⟨g, k * 3, none⟩ = some (.string ea) := c0
          have y1 : (wr.drewN nq).cell? ⟨g, k * 3 + 1, none⟩ = some (.int .i64 er) := c1
          have y2 : (wr.drewN nq).cell? ⟨g, k * 3 + 2, none⟩ = some (.int .i64 eb) := c2
          clear c0 c1 c2 o0 o1 o2 l0 l1 l2
          generalize wr.drewN nq = Y at *
          have x0 := cell_regrown y0
          have x1 := cell_regrown y1
          have x2 := cell_regrown y2
          have x3 := cell_regrown r0
          have x4 := cell_regrown r1
          have x5 := cell_regrown r2
          have cIA := fun d os => Calls.regrown_of (w := Y) (d := d) (os := os) (hIA _)
          refine wp_region_quiet_below (by kernel_rfl) (by kernel_rfl) ?_
          repeat (quiet_step (first | (go_at_call 29; exact cIA _ _)))
          refine wpQuiet_nil ?_
          intro _ hw'
          obtain ⟨⟨dq, osq⟩, hw''⟩ := hw'
          subst hw''
          have hV : Below w3.heap.size w3 (grow (redrawn Y dq) osq) := hbQ.trans ((below_regrown Y dq osq).mono hbQ.size)
          clear x0 x1 x2 x3 x4 x5 cIA hIA y0 y1 y2 r0 r1 r2 hbQ EF hk1 hwm HAk
          generalize grow (redrawn Y dq) osq = V at hV ⊢
          go_wp2
          go_loopw [8, 9, 10] (fun x y j wr2 => ∃ t : Nat, t ≤ n ∧ j = .int .i64 t ∧ x = .int .i64 (cntP (ea, er, eb) d' t) ∧ y = .int .i64 (cntP (ea, er, eb) d t) ∧ Below w3.heap.size w3 wr2) (fun _ _ j _ => n - (RowKit.intOf j).toNat)
          case atStart => exact ⟨0, Nat.zero_le _, rfl, rfl, rfl, hV⟩
          case round =>
            obtain ⟨t, ht, rfl, rfl, rfl, hwr2⟩ := hrel
            have b1 := cntP_le (ea, er, eb) d' t
            have b2 := cntP_le (ea, er, eb) d t
            by_cases htn : t < n
            · have xw := (rw'.out.below hwr2).cells (j := k) (by rw [hn'.out]; exact hlt)
              rw [HK.out] at xw
              have xt := (rw'.out.below hwr2).cells (j := t) (by rw [hn'.out]; exact htn)
              have xl := (rl.out.below hwr2).cells (j := t) (by rw [HN.out]; exact htn)
              have S1 : Hid (d'[t]! = (ea, er, eb) → cntP (ea, er, eb) d' (t + 1) = cntP (ea, er, eb) d' t + 1) := cntP_hit (by rw [hn'.out]; exact htn)
              have S2 : Hid (d'[t]! ≠ (ea, er, eb) → cntP (ea, er, eb) d' (t + 1) = cntP (ea, er, eb) d' t) := cntP_miss (by rw [hn'.out]; exact htn)
              have S3 : Hid (d[t]! = (ea, er, eb) → cntP (ea, er, eb) d (t + 1) = cntP (ea, er, eb) d t + 1) := cntP_hit (by rw [HN.out]; exact htn)
              have S4 : Hid (d[t]! ≠ (ea, er, eb) → cntP (ea, er, eb) d (t + 1) = cntP (ea, er, eb) d t) := cntP_miss (by rw [HN.out]; exact htn)
              simp only [Nat.zero_add] at xw xt
              generalize d'[t]! = p at xt S1 S2
              generalize d[t]! = q at xl S3 S4
              obtain ⟨xw0, xw1, xw2⟩ := xw
              obtain ⟨xt0, xt1, xt2⟩ := xt
              obtain ⟨xl0, xl1, xl2⟩ := xl
              obtain ⟨pa, pr, pb⟩ := p
              obtain ⟨qa, qr, qb⟩ := q
              simp only at xw0 xw1 xw2 xt0 xt1 xt2 xl0 xl1 xl2
              by_cases e1 : ((pa, pr, pb) : Pl) = (ea, er, eb)
              · by_cases e2 : ((qa, qr, qb) : Pl) = (ea, er, eb)
                · have E1 := eq_of e1
                  have T1 : Hid (cntP (ea, er, eb) d' (t + 1) = cntP (ea, er, eb) d' t + 1) := S1.out e1
                  have E2 := eq_of e2
                  have T2 : Hid (cntP (ea, er, eb) d (t + 1) = cntP (ea, er, eb) d t + 1) := S3.out e2
                  clear S1 S2 S3 S4 e1 e2
                  simp only at E1 E2
                  go_wp2
                  go_quiet (fail)
                  go_wp2
                  go_quiet (fail)
                  go_wp2
                  go_roundw
                  case rel => exact ⟨t + 1, by omega, by go_num, by rw [T1.out]; go_num, by rw [T2.out]; go_num, below_drewN hwr2 _⟩
                  case measure => simp [RowKit.intOf]; omega
                · have E1 := eq_of e1
                  have T1 : Hid (cntP (ea, er, eb) d' (t + 1) = cntP (ea, er, eb) d' t + 1) := S1.out e1
                  have E2 := eq_not e2
                  have T2 : Hid (cntP (ea, er, eb) d (t + 1) = cntP (ea, er, eb) d t) := S4.out e2
                  clear S1 S2 S3 S4 e1 e2
                  simp only at E1 E2
                  go_wp2
                  go_quiet (fail)
                  go_wp2
                  go_quiet (fail)
                  go_wp2
                  go_roundw
                  case rel => exact ⟨t + 1, by omega, by go_num, by rw [T1.out]; go_num, by rw [T2.out], below_drewN hwr2 _⟩
                  case measure => simp [RowKit.intOf]; omega
              · by_cases e2 : ((qa, qr, qb) : Pl) = (ea, er, eb)
                · have E1 := eq_not e1
                  have T1 : Hid (cntP (ea, er, eb) d' (t + 1) = cntP (ea, er, eb) d' t) := S2.out e1
                  have E2 := eq_of e2
                  have T2 : Hid (cntP (ea, er, eb) d (t + 1) = cntP (ea, er, eb) d t + 1) := S3.out e2
                  clear S1 S2 S3 S4 e1 e2
                  simp only at E1 E2
                  go_wp2
                  go_quiet (fail)
                  go_wp2
                  go_quiet (fail)
                  go_wp2
                  go_roundw
                  case rel => exact ⟨t + 1, by omega, by go_num, by rw [T1.out], by rw [T2.out]; go_num, below_drewN hwr2 _⟩
                  case measure => simp [RowKit.intOf]; omega
                · have E1 := eq_not e1
                  have T1 : Hid (cntP (ea, er, eb) d' (t + 1) = cntP (ea, er, eb) d' t) := S2.out e1
                  have E2 := eq_not e2
                  have T2 : Hid (cntP (ea, er, eb) d (t + 1) = cntP (ea, er, eb) d t) := S4.out e2
                  clear S1 S2 S3 S4 e1 e2
                  simp only at E1 E2
                  go_wp2
                  go_quiet (fail)
                  go_wp2
                  go_quiet (fail)
                  go_wp2
                  go_roundw
                  case rel => exact ⟨t + 1, by omega, by go_num, by rw [T1.out], by rw [T2.out], below_drewN hwr2 _⟩
                  case measure => simp [RowKit.intOf]; omega
            · have htn' : t = n := by omega
              have hcn : cntP (ea, er, eb) d' t = cntP (ea, er, eb) d t := by
                have := HN.out
                have hp := HP.out
                rw [htn']
                rw [← this] at hp ⊢
                exact cntP_perm hp
              clear htn'
              go_wp2
              go_roundw
              case rel => exact ⟨k + 1, by omega, by go_num, hwr2⟩
              case measure => simp [RowKit.intOf]; omega
    · go_wp2
      go_ret
      exact ⟨rfl, hB3.trans (hwr.mono hB3.size)⟩
end Go.Proofs.YtpigcjbjjnaogaaDoor
