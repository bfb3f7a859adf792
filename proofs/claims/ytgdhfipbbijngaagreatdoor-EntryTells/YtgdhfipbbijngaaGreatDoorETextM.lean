/-
  An entry's text out of its pieces: sizes, joinings; no program is walked here.
-/
import Derived.Test.YtgdhfipbbijngaaGreatDoorECheck
namespace Go.Proofs.YtgdhfipbbijngaaGreatDoor
open Go.RowKit Go.Lib Go.Sort

theorem bytes_ext {a b : ByteArray} (h : a.data.toList = b.data.toList) : a = b := by cases a; cases b; simp at h; rw [h]
abbrev bl : ByteArray := ⟨#[32]⟩
theorem dec13 {u : Nat} (h : u < 10 ^ 13) : (decDigits u).length ≤ 13 := by simpa using dec_short u h
theorem ptext_short {x : Pl} (h : placeErr x = 0) : (ptext x).size ≤ 36 := by
  have hok := okP_of h
  obtain ⟨hn, a1, a2, a3, a4⟩ := okP_bounds hok
  have h1 := dec13 (u := x.2.1.toNat) (by omega)
  have h2 := dec13 (u := x.2.2.toNat) (by omega)
  have h3 := name_short hn
  rw [← size_len] at h3
  rw [← size_len]
  show (pbytes x).length ≤ 36
  rw [pbytes_ok hok]
  simp only [List.length_append, List.length_cons]
  omega
theorem decB_size {n : Int} (h : n ≤ 1099511627776) : (decB n).size ≤ 13 := dec_size _ (by omega)
theorem etext_ok {e : En} (h : entErr e = 0) : etext e = arr (entB e) := by unfold etext; rw [if_pos h]
theorem etext_no {e : En} (h : entErr e ≠ 0) : etext e = ⟨#[]⟩ := by unfold etext; rw [if_neg h]
theorem text_goods {e : En} (hk : e.1 = kGoods) : (((e.1 ++ bl) ++ e.2.1.1) ++ bl) ++ decB e.2.1.2 = arr (entB e) := by
  apply bytes_ext
  unfold entB decB
  rw [hk, kd_goods]
  simp only [append_bytes]
  simp
theorem text_lot {e : En} (hk : e.1 = kLot) (h : lotErr e.2.2.1 = 0) : (e.1 ++ bl) ++ ltext e.2.2.1 = arr (entB e) := by
  apply bytes_ext
  unfold entB ltext
  rw [hk, kd_lot, if_pos ((okL_err _).2 h)]
  simp only [append_bytes]
  simp
theorem ltext_size {x : Lo} (h : lotErr x = 0) : (ltext x).size ≤ 45 := by
  have hok := (okL_err x).2 h
  obtain ⟨hn, hn', a1, a2, a3, a4⟩ := okL_bounds hok
  have ha := name_short hn
  have hcs := name_short hn'
  have hl1 := dec_size x.2.2.1.toNat (by omega)
  have hl2 := dec_size x.2.2.2.toNat (by omega)
  have e : (⟨#[32]⟩ : ByteArray).size = 1 := rfl
  unfold ltext
  rw [if_pos hok]
  simp only [ByteArray.size_append, e]
  omega
theorem text_to {e : En} (hk : kd e.1 = .tow) : ((((e.1 ++ bl) ++ e.2.2.1.1) ++ (bl ++ ptext e.2.2.2.2.1)) ++ bl) ++ decB e.2.2.2.2.2 = arr (entB e) := by
  apply bytes_ext
  unfold entB decB pbytes
  rw [hk]
  simp only [append_bytes]
  simp
theorem text_from {e : En} (hk : kd e.1 = .frm) : ((((e.1 ++ bl) ++ e.2.2.1.1) ++ (bl ++ ptext e.2.2.2.1)) ++ bl) ++ decB e.2.2.2.2.2 = arr (entB e) := by
  apply bytes_ext
  unfold entB decB pbytes
  rw [hk]
  simp only [append_bytes]
  simp
theorem text_move {e : En} (hk : kd e.1 = .move) : (((((e.1 ++ bl) ++ e.2.2.1.1) ++ (bl ++ ptext e.2.2.2.1)) ++ (bl ++ ptext e.2.2.2.2.1)) ++ bl) ++ decB e.2.2.2.2.2 = arr (entB e) := by
  apply bytes_ext
  unfold entB decB pbytes
  rw [hk]
  simp only [append_bytes]
  simp
theorem text_hold {e : En} (hk : kd e.1 = .hold) : ((((e.1 ++ bl) ++ e.2.2.1.1)) ++ bl) ++ decB e.2.2.2.2.2 = arr (entB e) := by
  apply bytes_ext
  unfold entB decB
  rw [hk]
  simp only [append_bytes]
  simp
theorem kind_size {k : ByteArray} (h : kd k ≠ .other) : k.size ≤ 5 := by
  rcases kind_cases k with rfl | rfl | (rfl | rfl) | (rfl | rfl) | rfl | (rfl | rfl) | hn
  all_goals first | decide | exact absurd hn.kd h
/-- What is left to know of an entry of pieces that is well. -/
structure PieceOk (c : Kd) (e : En) : Prop where
  k : e.1.size ≤ 5
  li : e.2.2.1.1.size ≤ 8
  n1 : 1 ≤ e.2.2.2.2.2
  n2 : e.2.2.2.2.2 ≤ 1099511627776
  fr : kFrom c = true → placeErr e.2.2.2.1 = 0
  tow : kTo c = true → placeErr e.2.2.2.2.1 = 0
theorem piece_ok {c : Kd} {e : En} (h : pieceErr c e = 0) (hk : kd e.1 ≠ .other) : PieceOk c e := by
  obtain ⟨z1, z2, z3, z4, z5⟩ := pieceErr_zero h
  refine ⟨kind_size hk, name_short z1, z4, z5, fun h => ?_, fun h => ?_⟩
  · unfold fromErr at z2; rw [if_pos h] at z2; exact z2
  · unfold toErr at z3; rw [if_pos h] at z3; exact z3
end Go.Proofs.YtgdhfipbbijngaaGreatDoor
