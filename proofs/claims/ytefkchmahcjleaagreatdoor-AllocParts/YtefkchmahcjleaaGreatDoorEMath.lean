/-
  Plain mathematics of entries: kinds, what an entry lacks, its text, what is read of a text; an entry is read as it was written; no program is named here.
-/
import Derived.Test.YtefkchmahcjleaaGreatDoorJz6
import Derived.Test.YtefkchmahcjleaaGreatDoorJz11
set_option maxRecDepth 100000
set_option maxHeartbeats 16000000
namespace Go.Proofs.YtefkchmahcjleaaGreatDoor
open Go.Lib Go.Sort
abbrev Gd := ByteArray × Int
abbrev En := ByteArray × Gd × Lo × Pl × Pl × Int
def zeroG : Gd := (⟨#[]⟩, 0)
def zeroE : En := (⟨#[]⟩, zeroG, zeroL, zeroP, zeroP, 0)
abbrev kGoods : ByteArray := ⟨#[103, 111, 111, 100, 115]⟩
abbrev kLot : ByteArray := ⟨#[108, 111, 116]⟩
abbrev kIn : ByteArray := ⟨#[105, 110]⟩
abbrev kMore : ByteArray := ⟨#[109, 111, 114, 101]⟩
abbrev kOut : ByteArray := ⟨#[111, 117, 116]⟩
abbrev kLess : ByteArray := ⟨#[108, 101, 115, 115]⟩
abbrev kMove : ByteArray := ⟨#[109, 111, 118, 101]⟩
abbrev kHold : ByteArray := ⟨#[104, 111, 108, 100]⟩
abbrev kFree : ByteArray := ⟨#[102, 114, 101, 101]⟩
inductive Kd where
  | goods | lot | tow | frm | move | hold | other
def kd (k : ByteArray) : Kd :=
  if k = kGoods then .goods else if k = kLot then .lot else if k = kIn ∨ k = kMore then .tow else if k = kOut ∨ k = kLess then .frm else if k = kMove then .move else if k = kHold ∨ k = kFree then .hold else .other
structure NoKind (k : ByteArray) : Prop where
  goods : k ≠ kGoods
  lot : k ≠ kLot
  in_ : k ≠ kIn
  more : k ≠ kMore
  out : k ≠ kOut
  less : k ≠ kLess
  move : k ≠ kMove
  hold : k ≠ kHold
  free : k ≠ kFree
theorem kind_cases (k : ByteArray) : k = kGoods ∨ k = kLot ∨ (k = kIn ∨ k = kMore) ∨ (k = kOut ∨ k = kLess) ∨ k = kMove ∨ (k = kHold ∨ k = kFree) ∨ NoKind k := by
  by_cases h1 : k = kGoods
  · exact Or.inl h1
  by_cases h2 : k = kLot
  · exact Or.inr (Or.inl h2)
  by_cases h3 : k = kIn
  · exact Or.inr (Or.inr (Or.inl (Or.inl h3)))
  by_cases h4 : k = kMore
  · exact Or.inr (Or.inr (Or.inl (Or.inr h4)))
  by_cases h5 : k = kOut
  · exact Or.inr (Or.inr (Or.inr (Or.inl (Or.inl h5))))
  by_cases h6 : k = kLess
  · exact Or.inr (Or.inr (Or.inr (Or.inl (Or.inr h6))))
  by_cases h7 : k = kMove
  · exact Or.inr (Or.inr (Or.inr (Or.inr (Or.inl h7))))
  by_cases h8 : k = kHold
  · exact Or.inr (Or.inr (Or.inr (Or.inr (Or.inr (Or.inl (Or.inl h8))))))
  by_cases h9 : k = kFree
  · exact Or.inr (Or.inr (Or.inr (Or.inr (Or.inr (Or.inl (Or.inr h9))))))
  · exact Or.inr (Or.inr (Or.inr (Or.inr (Or.inr (Or.inr ⟨h1, h2, h3, h4, h5, h6, h7, h8, h9⟩)))))
theorem kd_goods : kd kGoods = .goods := rfl
theorem kd_lot : kd kLot = .lot := rfl
theorem kd_in : kd kIn = .tow := rfl
theorem kd_more : kd kMore = .tow := rfl
theorem kd_out : kd kOut = .frm := rfl
theorem kd_less : kd kLess = .frm := rfl
theorem kd_move : kd kMove = .move := rfl
theorem kd_hold : kd kHold = .hold := rfl
theorem kd_free : kd kFree = .hold := rfl
theorem NoKind.kd {k : ByteArray} (h : NoKind k) : kd k = .other := by
  unfold Go.Proofs.YtefkchmahcjleaaGreatDoor.kd
  rw [if_neg h.goods, if_neg h.lot, if_neg (fun e => e.elim h.in_ h.more), if_neg (fun e => e.elim h.out h.less), if_neg h.move, if_neg (fun e => e.elim h.hold h.free)]
def isKd (k : ByteArray) : Bool :=
  match kd k with
  | .other => false
  | _ => true
def kFrom : Kd → Bool
  | .frm => true
  | .move => true
  | _ => false
def kTo : Kd → Bool
  | .tow => true
  | .move => true
  | _ => false
def gdErr (g : Gd) : Nat := if isName g.1.data.toList then (if pw g.2 then 0 else 2) else 5
theorem gdErr_le (g : Gd) : gdErr g ≤ 12 := by unfold gdErr; repeat' split
                                               all_goals omega
def fromErr (c : Kd) (p : Pl) : Nat := if kFrom c then placeErr p else 0
def toErr (c : Kd) (p : Pl) : Nat := if kTo c then placeErr p else 0
def decMv : (c : Kd) → (p q : Pl) → Decidable (c = .move ∧ p = q)
  | .move, p, q => if h : p = q then .isTrue ⟨rfl, h⟩ else .isFalse fun e => h e.2
  | .goods, _, _ => .isFalse fun e => nomatch e.1
  | .lot, _, _ => .isFalse fun e => nomatch e.1
  | .tow, _, _ => .isFalse fun e => nomatch e.1
  | .frm, _, _ => .isFalse fun e => nomatch e.1
  | .hold, _, _ => .isFalse fun e => nomatch e.1
  | .other, _, _ => .isFalse fun e => nomatch e.1
def numErr (c : Kd) (p q : Pl) (n : Int) : Nat := if numW n then @ite Nat (c = .move ∧ p = q) (decMv c p q) 3 0 else 2
def pieceErr (c : Kd) (e : En) : Nat :=
  if isName e.2.2.1.1.data.toList then
    (if fromErr c e.2.2.2.1 = 0 then (if toErr c e.2.2.2.2.1 = 0 then numErr c e.2.2.2.1 e.2.2.2.2.1 e.2.2.2.2.2 else toErr c e.2.2.2.2.1) else fromErr c e.2.2.2.1)
  else 5
def ownErr (e : En) : Nat :=
  match kd e.1 with
  | .goods => gdErr e.2.1
  | .lot => lotErr e.2.2.1
  | .other => 4
  | c => pieceErr c e
def othersC (c : Kd) (e : En) : En :=
  match c with
  | .goods => (⟨#[]⟩, zeroG, e.2.2.1, e.2.2.2.1, e.2.2.2.2.1, e.2.2.2.2.2)
  | .lot => (⟨#[]⟩, e.2.1, zeroL, e.2.2.2.1, e.2.2.2.2.1, e.2.2.2.2.2)
  | c => (⟨#[]⟩, e.2.1, (⟨#[]⟩, e.2.2.1.2), (if kFrom c then zeroP else e.2.2.2.1), (if kTo c then zeroP else e.2.2.2.2.1), 0)
def othersE (e : En) : En := othersC (kd e.1) e
def sameE (x y : En) : Bool := decide (x.1 = y.1) && (decide (x.2.1 = y.2.1) && (decide (x.2.2.1 = y.2.2.1) && (decide (x.2.2.2.1 = y.2.2.2.1) && (decide (x.2.2.2.2.1 = y.2.2.2.2.1) && decide (x.2.2.2.2.2 = y.2.2.2.2.2)))))
theorem sameE_iff {x y : En} : sameE x y = true ↔ x = y := by
  unfold sameE
  simp only [decide_eq_true_eq, Bool.and_eq_true]
  constructor
  · rintro ⟨h1, h2, h3, h4, h5, h6⟩
    exact Prod.ext h1 (Prod.ext h2 (Prod.ext h3 (Prod.ext h4 (Prod.ext h5 h6))))
  · rintro rfl; simp
def entErr (e : En) : Nat := if ownErr e = 0 then (if sameE (othersE e) zeroE = true then 0 else 3) else ownErr e
theorem pieceErr_le (c : Kd) (e : En) : pieceErr c e ≤ 12 := by
  unfold pieceErr fromErr toErr numErr
  have h1 := placeErr_le e.2.2.2.1
  have h2 := placeErr_le e.2.2.2.2.1
  repeat' split
  all_goals omega
theorem ownErr_le (e : En) : ownErr e ≤ 12 := by
  unfold ownErr
  have h1 := gdErr_le e.2.1
  have h2 : lotErr e.2.2.1 ≤ 12 := by unfold lotErr; repeat' split
                                      all_goals omega
  split
  · exact h1
  · exact h2
  · omega
  · exact pieceErr_le _ _
theorem entErr_le (e : En) : entErr e ≤ 12 := by
  unfold entErr
  have := ownErr_le e
  repeat' split
  all_goals omega
theorem entErr_own {e : En} (h : entErr e = 0) : ownErr e = 0 ∧ othersE e = zeroE := by
  unfold entErr at h
  by_cases h1 : ownErr e = 0
  · rw [if_pos h1] at h
    by_cases h2 : sameE (othersE e) zeroE = true
    · exact ⟨h1, sameE_iff.1 h2⟩
    · rw [if_neg h2] at h; omega
  · rw [if_neg h1] at h; exact absurd h h1
theorem pieceErr_zero {c : Kd} {e : En} (h : pieceErr c e = 0) : isName e.2.2.1.1.data.toList = true ∧ fromErr c e.2.2.2.1 = 0 ∧ toErr c e.2.2.2.2.1 = 0 ∧ 1 ≤ e.2.2.2.2.2 ∧ e.2.2.2.2.2 ≤ 1099511627776 := by
  unfold pieceErr at h
  by_cases h1 : isName e.2.2.1.1.data.toList = true
  · rw [if_pos h1] at h
    by_cases h2 : fromErr c e.2.2.2.1 = 0
    · rw [if_pos h2] at h
      by_cases h3 : toErr c e.2.2.2.2.1 = 0
      · rw [if_pos h3] at h
        unfold numErr at h
        by_cases h4 : numW e.2.2.2.2.2 = true
        · exact ⟨h1, h2, h3, (numW_iff _).1 h4⟩
        · rw [if_neg h4] at h; omega
      · rw [if_neg h3] at h; exact absurd h h3
    · rw [if_neg h2] at h; exact absurd h h2
  · rw [if_neg h1] at h; omega
end Go.Proofs.YtefkchmahcjleaaGreatDoor
