/-
  What cost's Text answers: each layer as a word, a blank between.
-/
import Derived.Test.YtefkchmahcjleaaDoorCoV
import Derived.Test.YtefkchmahcjleaaDoorCoJ
import Derived.Deep.RegionHeld3
namespace Go.Proofs.YtefkchmahcjleaaDoor
open Go.RowKit Go.Lib

def wordB (x : Ly) : ByteArray := ⟨(wordY x).toArray⟩
theorem textY_join : ∀ m : List Ly, joinL (m.map wordB) = textY m
  | [] => rfl
  | [x] => by simp [joinL, textY, wordB]
  | x :: y :: m => by
    have ih := textY_join (y :: m)
    show (wordB x).data.toList ++ 32 :: joinL ((y :: m).map wordB) = wordY x ++ 32 :: textY (y :: m)
    rw [ih]
    simp [wordB]
theorem wordB_size {m : List Ly} (h : LyOk m) {x : Ly} (hx : x ∈ m) : (wordB x).size ≤ 21 := by
  have := wordY_len h hx
  unfold wordB
  rw [← size_len, bytes_toList]; exact this
theorem wordB_eq (x : Ly) : ((⟨(decDigits x.1.toNat).toArray⟩ : ByteArray) ++ ⟨#[64]⟩) ++ ⟨(decDigits x.2.toNat).toArray⟩ = wordB x := by
  have e : (⟨#[64]⟩ : ByteArray) = ⟨([64] : List UInt8).toArray⟩ := rfl
  rw [e, str_append, str_append]
  unfold wordB wordY
  simp
theorem joins2 (a d : ByteArray) (ha : a.size ≤ 13) (hd : d.size ≤ 13) : ∃ t1 : ByteArray, (∀ w, (Op.stringOp .add a ⟨#[64]⟩).run Tryd.prog w = .ok (.string t1) w) ∧ (∀ w, (Op.stringOp .add t1 d).run Tryd.prog w = .ok (.string ((a ++ ⟨#[64]⟩) ++ d)) w) := by
  have e : (⟨#[64]⟩ : ByteArray).size = 1 := rfl
  refine ⟨_, fun w => run_string_add_sum w _ _ ?_, fun w => run_string_add_sum w _ _ ?_⟩
  all_goals
    simp only [ByteArray.size_append, e]
    omega
theorem own_below {w w' : World} {B : Nat} {T : TypeId} {v : Value} {n : Nat} {xs : List Value} (h : w.ownsRow B T 1 v n xs) (hb : Below w.heap.size w w') : w'.ownsRow B T 1 v n xs :=
  h.kept (row := none) ⟨hb.os, hb.tape, hb.output, hb.size, fun k hk _ => hb.block k hk⟩ (by cases e : v.ownBlock with | none => exact Or.inl rfl | some k => exact Or.inr (by simp))
theorem own_sliceW {w : World} {B n : Nat} {T : TypeId} {v : Value} {xs : List Value} (h : w.ownsRow B T 1 v n xs) : ∃ ao cap, v = .slice ao n cap := by
  rcases h.2 with ⟨hv, h0⟩ | ⟨g, cap, cur, hv, _⟩
  · exact ⟨none, 0, by rw [hv, h0]⟩
  · exact ⟨_, _, hv⟩
def strV (xs : List Ly) : List Value := xs.map fun x => .string (wordB x)
theorem strV_succ {m : List Ly} {j : Nat} {x : Ly} (h : m[j]? = some x) : strV (m.take (j + 1)) = strV (m.take j) ++ [.string (wordB x)] := by
  unfold strV
  rw [List.take_add_one, h, List.map_append]; rfl
set_option maxHeartbeats 4000000 in
set_option maxRecDepth 100000 in
/-- Text. -/
theorem ytext_any (w : World) (B q : Nat) (ks : List Nat) (m : List Ly) (h : LyAt w B q ks m) (hp : Pow w) (hlen : m.length ≤ 1000) :
    Calls Tryd.prog 10 #[ptrK q] w fun e w' => e = .returned (.string ⟨(textY m).toArray⟩) ∧ Below w.heap.size w w' := by
  obtain ⟨i0, hi, hz0, hz1, hz2⟩ := info_parts Tryd.infoStr
  have HW : Hid (Calls Tryd.prog 20 _ w _) := ywhole_any q w
  have c0 : w.cell? ⟨q, 0, none⟩ = some (hdY ks nilP) := cell_blk h.r.top 0
  have HR : Hid (LyR w B q ks m (hasY m)) := h.r
  have HO : Hid (LyOk m) := h.ok
  have HN : Hid (ks.Nodup) := (List.nodup_cons.1 h.r.nd).2
  have HLe : Hid (ks.length = m.length) := h.r.lnk.len
  have HI : Hid (∀ (n : Int) W, 0 ≤ n → n ≤ 1099511627776 → Below w.heap.size w W → Calls Tryd.prog 22 #[.int .i64 n] W fun e w' => e = .returned (.string ⟨(decDigits n.toNat).toArray⟩) ∧ Below W.heap.size W w') := fun n W h0 h1 hb => itoa_any n h0 (by omega) W (hp.below hb)
  have HJ : Hid (∀ W v, Below w.heap.size w W → W.ownsRow w.heap.size 9 1 v m.length (strV m) → Calls Tryd.prog 23 #[v, .string ⟨#[32]⟩] W fun e w' => e = .returned (.string ⟨(textY m).toArray⟩) ∧ Below W.heap.size W w') := fun W v hb ho => by
    have ho2 := ho
    rcases ho.2 with ⟨rfl, h0⟩ | ⟨g, cap, cur, rfl, hg, hgb, hcap, _, _, _⟩
    · have hm : m = [] := List.eq_nil_of_length_eq_zero h0
      subst hm
      refine (join_none none 0 W).mono ?_
      rintro e w' ⟨rfl, rfl⟩
      exact ⟨rfl, Below.refl _ _⟩
    · have hcell : ∀ j x, (m.map wordB)[j]? = some x → W.cell? ⟨g, j, none⟩ = some (.string x) := fun j x hx => by
        have := ho2.cells (g := g) rfl j (.string x) (by
          rw [List.getElem?_map] at hx
          unfold strV
          rw [List.getElem?_map]
          cases hm : m[j]? with
          | none => rw [hm] at hx; simp at hx
          | some y => rw [hm] at hx; simp at hx; simp [hx])
        rw [Go.WideShapes.add_plain] at this
        simpa using this
      have hglt := (Array.getElem?_eq_some_iff.1 hgb).1
      rcases m with _ | ⟨x, _ | ⟨y, r⟩⟩
      · refine (join_none _ cap W).mono ?_
        rintro e w' ⟨rfl, rfl⟩
        exact ⟨rfl, Below.refl _ _⟩
      · refine (join_one g cap (wordB x) W (hcell 0 _ rfl)).mono ?_
        rintro e w' ⟨rfl, rfl⟩
        exact ⟨rfl, Below.refl _ _⟩
      · have := join_many g cap ((x :: y :: r).map wordB) W hcell hglt (by simp) (by rw [List.length_map]; exact hlen) (by rw [List.length_map]; exact hcap) (fun z hz => by
          obtain ⟨t, ht, rfl⟩ := List.mem_map.1 hz
          have := wordB_size h.ok ht
          omega)
        rw [List.length_map, textY_join] at this
        exact this
  have HSz : Hid (∀ x ∈ m, (wordB x).size ≤ 21) := fun x hx => wordB_size h.ok hx
  clear h hp
  go_enter Tryd.func10, Tryd.ntmps10
  go_wp2_with (go_at_call 20; refine HW.out.mono ?_; rintro e w1 ⟨rfl, hw⟩; have hw' := hw.symm; subst hw')
  go_loopw [3, 4] (fun vs va wr => ∃ j : Nat, j ≤ m.length ∧ wr.ownsRow w.heap.size 9 1 vs j (strV (m.take j)) ∧ va = hdY (ks.drop j) nilP ∧ Below w.heap.size w wr) (fun _ va _ => posY ks va)
  case atStart => exact ⟨0, Nat.zero_le _, World.ownsRow_nil _ _ _ _, by rw [List.drop_zero], Below.refl _ _⟩
  case round =>
    rename_i vout vat
    obtain ⟨j, hj, hown, rfl, hwr⟩ := hrel
    by_cases hlt : j < m.length
    · obtain ⟨x, hx⟩ : ∃ x, m[j]? = some x := ⟨_, List.getElem?_eq_getElem hlt⟩
      obtain ⟨k, e, hk, hc⟩ := HR.out.step hx
      have HM : Hid (posY ks (ptrK k) = m.length - j ∧ posY ks (hdY (ks.drop (j + 1)) nilP) = m.length - (j + 1)) := by
        rw [← e, ← HLe.out]
        exact ⟨posY_drop HN.out j, posY_drop HN.out (j + 1)⟩
      have hxm := List.mem_of_getElem? hx
      have HE : Hid (strV (m.take (j + 1)) = strV (m.take j) ++ [.string (wordB x)]) := strV_succ hx
      obtain ⟨x1, x2, x3⟩ := HO.out.pos x hxm
      have hxq : x.1 ≤ 1099511627776 := by
        have h1 := hasY_take HO.out.pos (j + 1)
        have h2 := hasY_take HO.out.pos j
        have h3 : hasY (m.take (j + 1)) = hasY (m.take j) + x.1 := by
          rw [List.take_add_one, hx, hasY_app]
          show _ + hasY [x] = _
          rw [hasY_cons, hasY_nil]; omega
        have := HO.out.most
        omega
      have hw1 : (⟨(decDigits x.1.toNat).toArray⟩ : ByteArray).size ≤ 13 := by rw [← size_len, bytes_toList]; exact dec_len 13 (by decide) (by omega)
      have hw2 : (⟨(decDigits x.2.toNat).toArray⟩ : ByteArray).size ≤ 13 := by rw [← size_len, bytes_toList]; exact dec_len 13 (by decide) (by omega)
      obtain ⟨t1, s1, s2⟩ := joins2 _ _ hw1 hw2
      rw [wordB_eq] at s2
      have hI1 := fun W hb => HI.out x.1 W (by omega) hxq hb
      have hI2 := fun W hb => HI.out x.2 W x2 (by omega) hb
      generalize (⟨(decDigits x.1.toNat).toArray⟩ : ByteArray) = td1 at *
      generalize (⟨(decDigits x.2.toNat).toArray⟩ : ByteArray) = td2 at *
      generalize wordB x = wd at *
      obtain ⟨vn, hvn⟩ : ∃ vn, hdY (ks.drop (j + 1)) nilP = vn := ⟨_, rfl⟩
      rw [hvn] at hc HM
      have HV : Hid (hdY (ks.drop (j + 1)) nilP = vn) := hvn
      have HC : Hid (∀ W, Below w.heap.size w W → W.cell? ⟨k, 0, none⟩ = some (.int .i64 x.1) ∧ W.cell? ⟨k, 1, none⟩ = some (.int .i64 x.2) ∧ W.cell? ⟨k, 2, none⟩ = some vn) := hc
      have hwd : Below w.heap.size w wr.drew := hwr.drew
      obtain ⟨c1, c2, c3⟩ := hc wr hwr
      obtain ⟨d1, d2, d3⟩ := hc wr.drew hwd
      obtain ⟨ao, co, rfl⟩ := own_sliceW hown
      have HOw : Hid (wr.ownsRow w.heap.size 9 1 (.slice ao j co) j (strV (m.take j))) := hown
      have hBx : Below wr.heap.size wr wr.drew := (Below.refl _ _).drew
      have HBx : Hid (Below wr.heap.size wr wr.drew) := hBx
      have HWd : Hid (Below w.heap.size w wr.drew) := hwd
      have hjm : j < 1000 := by omega
      rw [e]
      generalize hS : strV (m.take j) = S at *
      clear hx hc hwr e hvn hxm hown hw1 hw2 hS hBx hwd
      obtain ⟨xa, xb⟩ := x
      simp only at *
      go_wp2
      go_region_held3 (fun w' => w'.cell? ⟨k, 0, none⟩ = some (.int .i64 xa) ∧ w'.cell? ⟨k, 1, none⟩ = some (.int .i64 xb) ∧ w'.cell? ⟨k, 2, none⟩ = some vn) (go_keep)
        (first
          | (go_at_call_of 22 (Value.int .i64 xa); refine (hI1 _ HWd.out).mono ?_; rintro e w2 ⟨rfl, hb2⟩; have HB2 : Hid (Below w.heap.size w w2) := HWd.out.trans (hb2.mono HWd.out.size); have HX2 : Hid (Below wr.heap.size wr w2) := HBx.out.trans (hb2.mono HBx.out.size); obtain ⟨k0, k1, k2⟩ := HC.out w2 HB2.out; clear hb2)
          | (go_at_call_of 22 (Value.int .i64 xb); refine (hI2 _ HB2.out).mono ?_; rintro e w3 ⟨rfl, hb3⟩; have HB3 : Hid (Below w.heap.size w w3) := HB2.out.trans (hb3.mono HB2.out.size); have HX3 : Hid (Below wr.heap.size wr w3) := HX2.out.trans (hb3.mono HX2.out.size); obtain ⟨j0, j1, j2⟩ := HC.out w3 HB3.out; clear hb3)
          | (refine step_append_lies _ rfl _ _ 53 rfl w.heap.size 9 i0 (.string ⟨#[]⟩) 1 16 Tryd.underlying53 hi hz0 hz1 hz2 rfl (by decide) (.slice ao j co) j S rfl ((own_below HOw.out HX3.out).alloc _) ⟨w3.heap.size, 0, none⟩ 1 1 [.string wd] rfl rfl (World.news_of_block (heap_alloc_new w3 _)) (fun u hu => (by rw [List.mem_singleton.1 hu]; rfl)) (by decide) (by unfold maxLen; omega) (by omega) (by have := HB3.out.size; simp; omega) _ rfl ?_; intro g4 cap4 w4 own4 gr4 _ _; have HB4 : Hid (Below w.heap.size w w4) := ((HB3.out.alloc HB3.out.size _).grown gr4 (by have := HB3.out.size; simp; omega) (fun k hk => (HOw.out.lt k hk).1)); have HO4 : Hid (w4.ownsRow w.heap.size 9 1 (.slice (some ⟨g4, 0, none⟩) (j + 1) cap4) (j + 1) (S ++ [.string wd])) := own4; obtain ⟨i0', i1', i2'⟩ := HC.out w4 HB4.out; clear own4 gr4))
      go_wp2
      go_roundw
      case rel => exact ⟨j + 1, by omega, by rw [HE.out]; exact HO4.out, HV.out.symm, HB4.out⟩
      case measure => show posY ks vn < posY ks (ptrK k); rw [HM.out.1, HM.out.2]; omega
    · have hE := HR.out.over (Nat.le_of_not_lt hlt)
      have hjm : j = m.length := by omega
      subst hjm
      rw [List.take_length] at hown
      rw [hE]
      have HJn : Hid (Calls Tryd.prog 23 _ wr _) := HJ.out wr _ hwr hown
      have HWr : Hid (Below w.heap.size w wr) := hwr
      clear hown hwr
      go_wp2_with (go_at_call 23; refine HJn.out.mono ?_; rintro e w2 ⟨rfl, hb2⟩)
      go_ret
      exact ⟨rfl, HWr.out.trans (hb2.mono HWr.out.size)⟩
end Go.Proofs.YtefkchmahcjleaaDoor
