/-
  What strings.SplitN at a blank and four words, and lot.parts answer, over whatever world; condition: the text is no longer than a string may be. Plain mathematics of entries: kinds, what an entry lacks, its text, what is read of a text; an entry is read as it was written; no program is named here. Plain mathematics of the words of an entry's text.
-/
import Derived.Test.YtgdhfipbbijngaaGreatDoorBzB
import Derived.Test.YtgdhfipbbijngaaGreatDoorGen2
import Derived.Deep.RegionHeld3
import Derived.Lib.SplitLaws
import Derived.Test.YtgdhfipbbijngaaGreatDoorBzA
namespace Go.Proofs.YtgdhfipbbijngaaGreatDoor
open Go.RowKit Go.Lib Go.Sort

/-- Are there three blanks or more? -/
def three (l : List UInt8) : Bool := has 32 l && (has 32 (cutB 32 l) && has 32 (cutB 32 (cutB 32 l)))
/-- The four words. -/
def wd2 (l : List UInt8) : List UInt8 := cutA 32 (cutB 32 (cutB 32 l))
def wd3 (l : List UInt8) : List UInt8 := cutB 32 (cutB 32 (cutB 32 l))
/-- Are there four words, day and cost numbers? -/
def lotNum (l : List UInt8) : Bool := three l && (isNum 9 (wd2 l) && isNum 9 (wd3 l))
def lotOf (l : List UInt8) : Lo := (⟨(cutA 32 l).toArray⟩, ⟨(cutA 32 (cutB 32 l)).toArray⟩, numR 9 (wd2 l), numR 9 (wd3 l))
def zeroL : Lo := (⟨#[]⟩, ⟨#[]⟩, 0, 0)
/-- A text as a lot, and the number of its error. -/
def readL (l : List UInt8) : Lo × Nat := if lotNum l then (if lotErr (lotOf l) = 0 then (lotOf l, 0) else (zeroL, lotErr (lotOf l))) else (zeroL, 1)
theorem readL_code (l : List UInt8) : (readL l).2 ≤ 12 := by
  unfold readL; split
  · split
    · exact Nat.zero_le _
    · exact lotErr_le _
  · decide
theorem splitK_one (c : UInt8) (k : Nat) (l : List UInt8) : Lib.splitK [c] 0 (k + 1) l = if has c l then pre c l :: Lib.splitK [c] 0 k (post c l) else [l] := by
  rw [Lib.splitK, Lib.index_one, indexByte_eq]
  cases h : has c l with
  | false => simp
  | true =>
    have hne : ¬ (((pre c l).length : Int) == -1) = true := by simp
    simp only [if_true]
    rw [if_neg hne]
    simp only [Int.toNat_natCast, Nat.add_zero, List.length_singleton]
    rw [take_pre, drop_pre]
theorem splitK_few (l : List UInt8) (k : Nat) (hk : k ≤ 3) (h : three l = false) : (Lib.splitK [32] 0 k l).length < 4 := by
  have key : ∀ k l, (Lib.splitK [32] 0 k l).length ≤ k + 1 := by
    intro k
    induction k with
    | zero => intro l; simp [Lib.splitK]
    | succ k ih =>
      intro l
      rw [splitK_one]
      split
      · have := ih (post 32 l); simp; omega
      · simp
  rcases Nat.lt_or_ge k 3 with hk' | hk'
  · have := key k l; omega
  · obtain rfl : k = 3 := by omega
    unfold three at h
    rw [splitK_one]
    cases h1 : has 32 l with
    | false => simp
    | true =>
      rw [h1, Bool.true_and, cutB_yes h1] at h
      simp only [if_true]
      rw [splitK_one]
      cases h2 : has 32 (post 32 l) with
      | false => simp
      | true =>
        rw [h2, Bool.true_and, cutB_yes h2] at h
        simp only [if_true]
        rw [splitK_one, h]; simp
theorem splitK_four (l : List UInt8) (h : three l = true) : Lib.splitK [32] 0 3 l = [cutA 32 l, cutA 32 (cutB 32 l), wd2 l, wd3 l] := by
  unfold three at h
  simp only [Bool.and_eq_true] at h
  obtain ⟨h1, h2, h3⟩ := h
  unfold wd2 wd3
  rw [splitK_one, if_pos h1, ← cutB_yes h1, splitK_one, if_pos h2, ← cutB_yes h2, splitK_one, if_pos h3, ← cutB_yes h3, cutA_yes h1, cutA_yes h2, cutA_yes h3]
  rfl
theorem three_long (l : List UInt8) (h : three l = true) : 3 ≤ l.length := by
  have key : ∀ l, has 32 l = true → (cutB 32 l).length + 1 ≤ l.length := fun l h => by
    rw [cutB_yes h, ← drop_pre, List.length_drop]
    have := pre_length_lt 32 l h
    omega
  unfold three at h
  simp only [Bool.and_eq_true] at h
  obtain ⟨h1, h2, h3⟩ := h
  have a := key _ h1
  have b := key _ h2
  have c := key _ h3
  omega
theorem Tryz.infoStr9 : (Tryz.prog.info? 9).map (fun i => (i.zero, i.size, i.bytes)) = some (some (.string ByteArray.empty), 1, 16) := by kernel_rfl
set_option maxHeartbeats 1000000 in
/-- strings.SplitN at a blank and 4. -/
theorem splitN_any (s : ByteArray) (w : World) (hz : s.size < 4294967281) :
    Calls Tryz.prog 63 #[.string s, .string ⟨#[32]⟩, .int .i64 4] w fun e w' =>
      e = .returned (.slice (some ⟨w.heap.size, 0, none⟩) (Lib.splitB ⟨#[32]⟩ 0 (min 4 (s.size + 1) - 1) s).length (min 4 (s.size + 1) : Nat)) ∧ w' = w.alloc (.cells (Lib.cellsOf (Lib.splitB ⟨#[32]⟩ 0 (min 4 (s.size + 1) - 1) s) (min 4 (s.size + 1))) 9) := by
  have c : Calls Tryz.prog 77 #[.string s, .string ⟨#[32]⟩, .int .i64 0, .int .i64 4] w _ := Any.strings_genSplit_core Tryz.lays221 Tryz.infoStr9 s ⟨#[32]⟩ 0 4 (min 4 (s.size + 1)) w hz (by decide) (Nat.zero_le _)
    (fun x c _ => (by
      refine (Tryz.strings_Index_one x 32 _).mono fun e w' ⟨he, hw⟩ => ⟨?_, hw⟩
      rw [he, ← Lib.index_one]))
    ((by
      refine (Tryz.strings_Count_one s 32 w).mono fun e w' ⟨he, hw⟩ => ⟨?_, hw⟩
      rw [he]
      show _ = Ending.returned (Value.int .i64 ((Lib.count s.data.toList [32] : Nat) : Int))
      rw [Lib.count_one]; rfl))
    (by decide) (by decide) (by rw [if_neg (by decide)]; omega)
  generalize (Lib.splitB ⟨#[32]⟩ 0 (min 4 (s.size + 1) - 1) s) = L at *
  generalize min 4 (s.size + 1) = M at *
  have H : Hid (Calls Tryz.prog 77 _ _ _) := c
  clear c
  go_enter Tryz.func63, Tryz.ntmps63
  go_wp2_with (go_at_call 77; refine H.out.mono ?_; rintro e w1 ⟨rfl, rfl⟩)
  go_ret
  exact ⟨rfl, rfl⟩
/-- .. of fewer than four words. -/
theorem splitN_few (s : ByteArray) (w : World) (hz : s.size < 4294967281) (h : three s.data.toList = false) :
    Calls Tryz.prog 63 #[.string s, .string ⟨#[32]⟩, .int .i64 4] w fun e w' => ∃ n m o, n < 4 ∧ e = .returned (.slice (some ⟨w.heap.size, 0, none⟩) n m) ∧ w' = w.alloc o := by
  refine (splitN_any s w hz).mono fun e w' ⟨he, hw⟩ => ⟨_, _, _, ?_, he, hw⟩
  have e1 : (Lib.splitB ⟨#[32]⟩ 0 (min 4 (s.size + 1) - 1) s).length = ((Lib.splitB ⟨#[32]⟩ 0 (min 4 (s.size + 1) - 1) s).map (·.data.toList)).length := by simp
  rw [e1, Lib.splitB_data]
  exact splitK_few _ _ (by omega) h
theorem four_of_data {L : List ByteArray} {a b c d : List UInt8} (h : L.map (·.data.toList) = [a, b, c, d]) : L = [⟨a.toArray⟩, ⟨b.toArray⟩, ⟨c.toArray⟩, ⟨d.toArray⟩] := by
  match L, h with
  | [x, y, z, t], h =>
    simp only [List.map_cons, List.map_nil, List.cons.injEq, and_true] at h
    obtain ⟨rfl, rfl, rfl, rfl⟩ := h
    cases x; cases y; cases z; cases t; simp
/-- .. of four or more. -/
theorem splitN_four (s : ByteArray) (w : World) (hz : s.size < 4294967281) (h : three s.data.toList = true) :
    Calls Tryz.prog 63 #[.string s, .string ⟨#[32]⟩, .int .i64 4] w fun e w' => e = .returned (.slice (some ⟨w.heap.size, 0, none⟩) 4 4) ∧
      w' = w.alloc (.cells #[.string ⟨(cutA 32 s.data.toList).toArray⟩, .string ⟨(cutA 32 (cutB 32 s.data.toList)).toArray⟩, .string ⟨(wd2 s.data.toList).toArray⟩, .string ⟨(wd3 s.data.toList).toArray⟩] 9) := by
  have h3 := three_long _ h
  rw [size_len] at h3
  have e0 : min 4 (s.size + 1) = 4 := by omega
  have eL : Lib.splitB ⟨#[32]⟩ 0 (min 4 (s.size + 1) - 1) s = _ := four_of_data ((Lib.splitB_data _ _ _ _).trans ((by rw [e0] : _ = Lib.splitK [32] 0 3 s.data.toList).trans (splitK_four _ h)))
  have hc := splitN_any s w hz
  rw [eL, e0] at hc
  exact hc
end Go.Proofs.YtgdhfipbbijngaaGreatDoor
namespace Go.Proofs.YtgdhfipbbijngaaGreatDoor
open Go.Lib Go.Sort

/-- Goods; an entry: kind, goods, lot, from, to, number. -/
abbrev Gd := ByteArray × Int
abbrev En := ByteArray × Gd × Lo × Pl × Pl × Int
def zeroG : Gd := (⟨#[]⟩, 0)
def zeroE : En := (⟨#[]⟩, zeroG, zeroL, zeroP, zeroP, 0)
abbrev kGoods : ByteArray := ⟨#[103, 111, 111, 100, 115]⟩
abbrev kLot : ByteArray := ⟨#[108, 111, 116]⟩
abbrev kIn : ByteArray := ⟨#[105, 110]⟩
abbrev kMore : ByteArray := ⟨#[109, 111, 114, 101]⟩
abbrev kOut : ByteArray := ⟨#[111, 117, 116]⟩
abbrev kLess : ByteArray := ⟨#[108, 101, 115, 115]⟩
abbrev kMove : ByteArray := ⟨#[109, 111, 118, 101]⟩
abbrev kHold : ByteArray := ⟨#[104, 111, 108, 100]⟩
abbrev kFree : ByteArray := ⟨#[102, 114, 101, 101]⟩
inductive Kd where
  | goods | lot | tow | frm | move | hold | other
/-- Of what sort a kind is. -/
def kd (k : ByteArray) : Kd :=
  if k = kGoods then .goods else if k = kLot then .lot else if k = kIn ∨ k = kMore then .tow else if k = kOut ∨ k = kLess then .frm else if k = kMove then .move else if k = kHold ∨ k = kFree then .hold else .other
/-- None of the nine. -/
structure NoKind (k : ByteArray) : Prop where
  goods : k ≠ kGoods
  lot : k ≠ kLot
  in_ : k ≠ kIn
  more : k ≠ kMore
  out : k ≠ kOut
  less : k ≠ kLess
  move : k ≠ kMove
  hold : k ≠ kHold
  free : k ≠ kFree
theorem kind_cases (k : ByteArray) : k = kGoods ∨ k = kLot ∨ (k = kIn ∨ k = kMore) ∨ (k = kOut ∨ k = kLess) ∨ k = kMove ∨ (k = kHold ∨ k = kFree) ∨ NoKind k := by
  by_cases h1 : k = kGoods
  · exact Or.inl h1
  by_cases h2 : k = kLot
  · exact Or.inr (Or.inl h2)
  by_cases h3 : k = kIn
  · exact Or.inr (Or.inr (Or.inl (Or.inl h3)))
  by_cases h4 : k = kMore
  · exact Or.inr (Or.inr (Or.inl (Or.inr h4)))
  by_cases h5 : k = kOut
  · exact Or.inr (Or.inr (Or.inr (Or.inl (Or.inl h5))))
  by_cases h6 : k = kLess
  · exact Or.inr (Or.inr (Or.inr (Or.inl (Or.inr h6))))
  by_cases h7 : k = kMove
  · exact Or.inr (Or.inr (Or.inr (Or.inr (Or.inl h7))))
  by_cases h8 : k = kHold
  · exact Or.inr (Or.inr (Or.inr (Or.inr (Or.inr (Or.inl (Or.inl h8))))))
  by_cases h9 : k = kFree
  · exact Or.inr (Or.inr (Or.inr (Or.inr (Or.inr (Or.inl (Or.inr h9))))))
  · exact Or.inr (Or.inr (Or.inr (Or.inr (Or.inr (Or.inr ⟨h1, h2, h3, h4, h5, h6, h7, h8, h9⟩)))))
theorem kd_goods : kd kGoods = .goods := rfl
theorem kd_lot : kd kLot = .lot := rfl
theorem kd_in : kd kIn = .tow := rfl
theorem kd_more : kd kMore = .tow := rfl
theorem kd_out : kd kOut = .frm := rfl
theorem kd_less : kd kLess = .frm := rfl
theorem kd_move : kd kMove = .move := rfl
theorem kd_hold : kd kHold = .hold := rfl
theorem kd_free : kd kFree = .hold := rfl
theorem NoKind.kd {k : ByteArray} (h : NoKind k) : kd k = .other := by
  unfold Go.Proofs.YtgdhfipbbijngaaGreatDoor.kd
  rw [if_neg h.goods, if_neg h.lot, if_neg (fun e => e.elim h.in_ h.more), if_neg (fun e => e.elim h.out h.less), if_neg h.move, if_neg (fun e => e.elim h.hold h.free)]
/-- Is a word a kind's? -/
def isKd (k : ByteArray) : Bool :=
  match kd k with
  | .other => false
  | _ => true
theorem kd_some {k : ByteArray} (h : isKd k = true) : kd k ≠ .other := fun e => by unfold isKd at h; rw [e] at h; cases h
/-- Has a sort a place that it is from, one that it is to? -/
def kFrom : Kd → Bool
  | .frm => true
  | .move => true
  | _ => false
def kTo : Kd → Bool
  | .tow => true
  | .move => true
  | _ => false
/-- The number of an error of goods. -/
def gdErr (g : Gd) : Nat := if isName g.1.data.toList then (if pw g.2 then 0 else 2) else 5
theorem gdErr_le (g : Gd) : gdErr g ≤ 12 := by unfold gdErr; repeat' split
                                               all_goals omega
/-- An error of the place that a sort is from, to. -/
def fromErr (c : Kd) (p : Pl) : Nat := if kFrom c then placeErr p else 0
def toErr (c : Kd) (p : Pl) : Nat := if kTo c then placeErr p else 0
def decMv : (c : Kd) → (p q : Pl) → Decidable (c = .move ∧ p = q)
  | .move, p, q => if h : p = q then .isTrue ⟨rfl, h⟩ else .isFalse fun e => h e.2
  | .goods, _, _ => .isFalse fun e => nomatch e.1
  | .lot, _, _ => .isFalse fun e => nomatch e.1
  | .tow, _, _ => .isFalse fun e => nomatch e.1
  | .frm, _, _ => .isFalse fun e => nomatch e.1
  | .hold, _, _ => .isFalse fun e => nomatch e.1
  | .other, _, _ => .isFalse fun e => nomatch e.1
/-- The rest of an entry of pieces: number, shape. -/
def numErr (c : Kd) (p q : Pl) (n : Int) : Nat := if numW n then @ite Nat (c = .move ∧ p = q) (decMv c p q) 3 0 else 2
def pieceErr (c : Kd) (e : En) : Nat :=
  if isName e.2.2.1.1.data.toList then
    (if fromErr c e.2.2.2.1 = 0 then (if toErr c e.2.2.2.2.1 = 0 then numErr c e.2.2.2.1 e.2.2.2.2.1 e.2.2.2.2.2 else toErr c e.2.2.2.2.1) else fromErr c e.2.2.2.1)
  else 5
def ownErr (e : En) : Nat :=
  match kd e.1 with
  | .goods => gdErr e.2.1
  | .lot => lotErr e.2.2.1
  | .other => 4
  | c => pieceErr c e
/-- What is left of an entry without the fields that its sort has. -/
def othersC (c : Kd) (e : En) : En :=
  match c with
  | .goods => (⟨#[]⟩, zeroG, e.2.2.1, e.2.2.2.1, e.2.2.2.2.1, e.2.2.2.2.2)
  | .lot => (⟨#[]⟩, e.2.1, zeroL, e.2.2.2.1, e.2.2.2.2.1, e.2.2.2.2.2)
  | c => (⟨#[]⟩, e.2.1, (⟨#[]⟩, e.2.2.1.2), (if kFrom c then zeroP else e.2.2.2.1), (if kTo c then zeroP else e.2.2.2.2.1), 0)
def othersE (e : En) : En := othersC (kd e.1) e
/-- Are two entries one? -/
def sameE (x y : En) : Bool := decide (x.1 = y.1) && (decide (x.2.1 = y.2.1) && (decide (x.2.2.1 = y.2.2.1) && (decide (x.2.2.2.1 = y.2.2.2.1) && (decide (x.2.2.2.2.1 = y.2.2.2.2.1) && decide (x.2.2.2.2.2 = y.2.2.2.2.2)))))
theorem sameE_iff {x y : En} : sameE x y = true ↔ x = y := by
  unfold sameE
  simp only [decide_eq_true_eq, Bool.and_eq_true]
  constructor
  · rintro ⟨h1, h2, h3, h4, h5, h6⟩
    exact Prod.ext h1 (Prod.ext h2 (Prod.ext h3 (Prod.ext h4 (Prod.ext h5 h6))))
  · rintro rfl; simp
theorem sameE_not {x y : En} (h : x ≠ y) : sameE x y = false := by
  cases hs : sameE x y with
  | false => rfl
  | true => exact absurd (sameE_iff.1 hs) h
/-- The number of an error of an entry. -/
def entErr (e : En) : Nat := if ownErr e = 0 then (if sameE (othersE e) zeroE = true then 0 else 3) else ownErr e
theorem pieceErr_le (c : Kd) (e : En) : pieceErr c e ≤ 12 := by
  unfold pieceErr fromErr toErr numErr
  have h1 := placeErr_le e.2.2.2.1
  have h2 := placeErr_le e.2.2.2.2.1
  repeat' split
  all_goals omega
theorem ownErr_le (e : En) : ownErr e ≤ 12 := by
  unfold ownErr
  have h1 := gdErr_le e.2.1
  have h2 : lotErr e.2.2.1 ≤ 12 := by unfold lotErr; repeat' split
                                      all_goals omega
  split
  · exact h1
  · exact h2
  · omega
  · exact pieceErr_le _ _
theorem entErr_le (e : En) : entErr e ≤ 12 := by
  unfold entErr
  have := ownErr_le e
  repeat' split
  all_goals omega
/-! ### as text -/
/-- The words of an entry's places. -/
def fromT (c : Kd) (p : Pl) : ByteArray := if kFrom c then ⟨#[32]⟩ ++ ptext p else ⟨#[]⟩
def toT (c : Kd) (p : Pl) : ByteArray := if kTo c then ⟨#[32]⟩ ++ ptext p else ⟨#[]⟩
def decB (n : Int) : ByteArray := ⟨(decDigits n.toNat).toArray⟩
/-- An entry's text, as bytes, where it is well. -/
def entB (e : En) : List UInt8 :=
  match kd e.1 with
  | .goods => e.1.data.toList ++ 32 :: (e.2.1.1.data.toList ++ 32 :: decDigits e.2.1.2.toNat)
  | .lot => e.1.data.toList ++ 32 :: (e.2.2.1.1.data.toList ++ 32 :: (e.2.2.1.2.1.data.toList ++ 32 :: (decDigits e.2.2.1.2.2.1.toNat ++ 32 :: decDigits e.2.2.1.2.2.2.toNat)))
  | .tow => e.1.data.toList ++ 32 :: (e.2.2.1.1.data.toList ++ 32 :: (pbytes e.2.2.2.2.1 ++ 32 :: decDigits e.2.2.2.2.2.toNat))
  | .frm => e.1.data.toList ++ 32 :: (e.2.2.1.1.data.toList ++ 32 :: (pbytes e.2.2.2.1 ++ 32 :: decDigits e.2.2.2.2.2.toNat))
  | .move => e.1.data.toList ++ 32 :: (e.2.2.1.1.data.toList ++ 32 :: (pbytes e.2.2.2.1 ++ 32 :: (pbytes e.2.2.2.2.1 ++ 32 :: decDigits e.2.2.2.2.2.toNat)))
  | .hold => e.1.data.toList ++ 32 :: (e.2.2.1.1.data.toList ++ 32 :: decDigits e.2.2.2.2.2.toNat)
  | .other => []
def etext (e : En) : ByteArray := if entErr e = 0 then ⟨(entB e).toArray⟩ else ⟨#[]⟩
/-! ### read -/
abbrev arr (l : List UInt8) : ByteArray := ⟨l.toArray⟩
/-- Words ahead of a number: how many blanks; the number behind them. -/
def tail1 (l : List UInt8) : List UInt8 := cutB 32 l
def tail2 (l : List UInt8) : List UInt8 := cutB 32 (cutB 32 l)
def tail3 (l : List UInt8) : List UInt8 := cutB 32 (cutB 32 (cutB 32 l))
def num1 (l : List UInt8) : Bool := has 32 l && isNum 13 (tail1 l)
def num2 (l : List UInt8) : Bool := has 32 l && (has 32 (cutB 32 l) && isNum 13 (tail2 l))
def num3 (l : List UInt8) : Bool := has 32 l && (has 32 (cutB 32 l) && (has 32 (tail2 l) && isNum 13 (tail3 l)))
/-- What is read of the words behind a kind k, of its sort; an error's number. -/
def partC (c : Kd) (k : ByteArray) (l : List UInt8) : En × Nat :=
  match c with
  | .goods => if num1 l then ((k, (arr (cutA 32 l), numVal (tail1 l)), zeroL, zeroP, zeroP, 0), 0) else (zeroE, 1)
  | .lot => ((k, zeroG, (readL l).1, zeroP, zeroP, 0), (readL l).2)
  | .tow => if num2 l then (if (readP (cutA 32 (cutB 32 l))).2 = 0 then ((k, zeroG, (arr (cutA 32 l), ⟨#[]⟩, 0, 0), zeroP, (readP (cutA 32 (cutB 32 l))).1, numVal (tail2 l)), 0) else (zeroE, (readP (cutA 32 (cutB 32 l))).2)) else (zeroE, 1)
  | .frm => if num2 l then (if (readP (cutA 32 (cutB 32 l))).2 = 0 then ((k, zeroG, (arr (cutA 32 l), ⟨#[]⟩, 0, 0), (readP (cutA 32 (cutB 32 l))).1, zeroP, numVal (tail2 l)), 0) else (zeroE, (readP (cutA 32 (cutB 32 l))).2)) else (zeroE, 1)
  | .move => if num3 l then (if (readP (cutA 32 (cutB 32 l))).2 = 0 then (if (readP (cutA 32 (tail2 l))).2 = 0 then ((k, zeroG, (arr (cutA 32 l), ⟨#[]⟩, 0, 0), (readP (cutA 32 (cutB 32 l))).1, (readP (cutA 32 (tail2 l))).1, numVal (tail3 l)), 0) else (zeroE, (readP (cutA 32 (tail2 l))).2)) else (zeroE, (readP (cutA 32 (cutB 32 l))).2)) else (zeroE, 1)
  | .hold => if num1 l then ((k, zeroG, (arr (cutA 32 l), ⟨#[]⟩, 0, 0), zeroP, zeroP, numVal (tail1 l)), 0) else (zeroE, 1)
  | .other => (zeroE, 4)
def partE (l : List UInt8) : En × Nat := partC (kd (arr (cutA 32 l))) (arr (cutA 32 l)) (cutB 32 l)
def readE (l : List UInt8) : En × Nat := if (partE l).2 = 0 then (if entErr (partE l).1 = 0 then ((partE l).1, 0) else (zeroE, entErr (partE l).1)) else (zeroE, (partE l).2)
theorem readP_le (l : List UInt8) : (readP l).2 ≤ 12 := by
  unfold readP
  have := placeErr_le (plOf l)
  split
  · split
    · show 0 ≤ 12; omega
    · exact this
  · show 1 ≤ 12; omega
theorem readL_le (l : List UInt8) : (readL l).2 ≤ 12 := by
  unfold readL
  have h2 : lotErr (lotOf l) ≤ 12 := by unfold lotErr; repeat' split
                                        all_goals omega
  split
  · split
    · show 0 ≤ 12; omega
    · exact h2
  · show 1 ≤ 12; omega
theorem partC_le (c : Kd) (k : ByteArray) (l : List UInt8) : (partC c k l).2 ≤ 12 := by
  have h1 := readP_le (cutA 32 (cutB 32 l))
  have h2 := readP_le (cutA 32 (tail2 l))
  have h3 := readL_le l
  cases c <;> unfold partC <;> simp only <;> (repeat' split) <;> simp <;> assumption
theorem readE_le (l : List UInt8) : (readE l).2 ≤ 12 := by
  unfold readE
  have h1 : (partE l).2 ≤ 12 := partC_le _ _ _
  have h2 := entErr_le (partE l).1
  split
  · split
    · show 0 ≤ 12; omega
    · exact h2
  · exact h1
/-! ### an entry is read as it was written -/
theorem kind_free {k : ByteArray} (h : kd k ≠ .other) : has 32 k.data.toList = false := by
  rcases kind_cases k with rfl | rfl | (rfl | rfl) | (rfl | rfl) | rfl | (rfl | rfl) | hn
  all_goals first | decide | exact absurd hn.kd h
theorem entErr_own {e : En} (h : entErr e = 0) : ownErr e = 0 ∧ othersE e = zeroE := by
  unfold entErr at h
  by_cases h1 : ownErr e = 0
  · rw [if_pos h1] at h
    by_cases h2 : sameE (othersE e) zeroE = true
    · exact ⟨h1, sameE_iff.1 h2⟩
    · rw [if_neg h2] at h; omega
  · rw [if_neg h1] at h; exact absurd h h1
theorem pieceErr_zero {c : Kd} {e : En} (h : pieceErr c e = 0) : isName e.2.2.1.1.data.toList = true ∧ fromErr c e.2.2.2.1 = 0 ∧ toErr c e.2.2.2.2.1 = 0 ∧ 1 ≤ e.2.2.2.2.2 ∧ e.2.2.2.2.2 ≤ 1099511627776 := by
  unfold pieceErr at h
  by_cases h1 : isName e.2.2.1.1.data.toList = true
  · rw [if_pos h1] at h
    by_cases h2 : fromErr c e.2.2.2.1 = 0
    · rw [if_pos h2] at h
      by_cases h3 : toErr c e.2.2.2.2.1 = 0
      · rw [if_pos h3] at h
        unfold numErr at h
        by_cases h4 : numW e.2.2.2.2.2 = true
        · exact ⟨h1, h2, h3, (numW_iff _).1 h4⟩
        · rw [if_neg h4] at h; omega
      · rw [if_neg h3] at h; exact absurd h h3
    · rw [if_neg h2] at h; exact absurd h h2
  · rw [if_neg h1] at h; omega
theorem back13 {n : Int} (h1 : 0 ≤ n) (h2 : n ≤ 1099511627776) : isNum 13 (decDigits n.toNat) = true ∧ ((numVal (decDigits n.toNat) : Nat) : Int) = n := by
  refine ⟨isNum_dec 13 _ (by decide) (by omega), ?_⟩
  rw [numVal_dec]; omega
theorem okP_of {x : Pl} (h : placeErr x = 0) : okP x = true := (okP_err x).2 h
theorem pfree {x : Pl} (h : placeErr x = 0) : has 32 (pbytes x) = false := pbytes_free (okP_of h) (by decide) (by decide) (by decide)
theorem nfree {l : List UInt8} (h : isName l = true) : has 32 l = false := has_name (by decide) h
theorem arr_data (x : ByteArray) : arr x.data.toList = x := by cases x; simp
theorem dfree (u : Nat) : has 32 (decDigits u) = false := dec_free 32 (by decide) u
/-- A lot is read as it was written. -/
theorem readL_back {x : Lo} (h : lotErr x = 0) : readL (x.1.data.toList ++ 32 :: (x.2.1.data.toList ++ 32 :: (decDigits x.2.2.1.toNat ++ 32 :: decDigits x.2.2.2.toNat))) = (x, 0) := by
  have hok := (okL_err x).2 h
  obtain ⟨hn, hn', a1, a2, a3, a4⟩ := okL_bounds hok
  obtain ⟨p1, p2, p3⟩ := cut_at (x.2.1.data.toList ++ 32 :: (decDigits x.2.2.1.toNat ++ 32 :: decDigits x.2.2.2.toNat)) (nfree hn)
  obtain ⟨q1, q2, q3⟩ := cut_at (decDigits x.2.2.1.toNat ++ 32 :: decDigits x.2.2.2.toNat) (nfree hn')
  obtain ⟨r1, r2, r3⟩ := cut_at (decDigits x.2.2.2.toNat) (dfree x.2.2.1.toNat)
  have n1 := isNum_dec 9 x.2.2.1.toNat (by decide) (by omega)
  have n2 := isNum_dec 9 x.2.2.2.toNat (by decide) (by omega)
  have e1 : lotNum (x.1.data.toList ++ 32 :: (x.2.1.data.toList ++ 32 :: (decDigits x.2.2.1.toNat ++ 32 :: decDigits x.2.2.2.toNat))) = true := by
    unfold lotNum three wd2 wd3
    rw [p3, q3, r2, r3, p1, q1, r1, n1, n2]; rfl
  have e2 : lotOf (x.1.data.toList ++ 32 :: (x.2.1.data.toList ++ 32 :: (decDigits x.2.2.1.toNat ++ 32 :: decDigits x.2.2.2.toNat))) = x := by
    unfold lotOf wd2 wd3
    rw [p2, p3, q2, q3, r2, r3, numR_yes n1, numR_yes n2, numVal_dec, numVal_dec]
    obtain ⟨a, c, u, k⟩ := x
    simp only at a1 a2 a3 a4 ⊢
    rw [show ((u.toNat : Nat) : Int) = u by omega, show ((k.toNat : Nat) : Int) = k by omega]
  unfold readL
  rw [if_pos e1, e2, if_pos h]
theorem partE_back {e : En} (h : entErr e = 0) : partE (entB e) = (e, 0) := by
  obtain ⟨h1, h2⟩ := entErr_own h
  unfold ownErr at h1
  unfold othersE at h2
  have hcut : ∀ r, kd e.1 ≠ .other → entB e = e.1.data.toList ++ 32 :: r → partE (entB e) = partC (kd e.1) e.1 r := fun r hk he => by
    obtain ⟨p1, p2, p3⟩ := cut_at r (kind_free hk)
    unfold partE
    rw [he, p2, p3, arr_data]
  unfold entB at hcut ⊢
  obtain ⟨k, ⟨gc, gp⟩, ⟨li, lc, lu, lk⟩, p, q, n⟩ := e
  unfold othersC zeroE zeroG zeroL at h2
  cases hk : kd k with
  | goods =>
    simp only [hk, Prod.mk.injEq] at h1 h2 hcut ⊢
    rw [hcut _ (by nofun) rfl]
    unfold gdErr at h1
    simp only at h1
    by_cases hn : isName gc.data.toList = true
    · rw [if_pos hn] at h1
      by_cases hp : pw gp = true
      · have hpb : 1 ≤ gp ∧ gp ≤ 1000 := by unfold pw at hp; simpa using hp
        obtain ⟨q1, q2, q3⟩ := cut_at (decDigits gp.toNat) (nfree hn)
        obtain ⟨b1, b2⟩ := back13 (n := gp) (by omega) (by omega)
        unfold partC num1 tail1
        simp only
        rw [q1, q2, q3, b1, b2, arr_data]
        obtain ⟨-, -, ⟨rfl, rfl, rfl, rfl⟩, rfl, rfl, rfl⟩ := h2
        rfl
      · rw [if_neg hp] at h1; omega
    · rw [if_neg hn] at h1; omega
  | lot =>
    simp only [hk, Prod.mk.injEq] at h1 h2 hcut ⊢
    rw [hcut _ (by nofun) rfl]
    have hb := readL_back h1
    simp only at hb
    unfold partC
    simp only
    rw [hb]
    obtain ⟨-, ⟨rfl, rfl⟩, -, rfl, rfl, rfl⟩ := h2
    rfl
  | other => rw [hk] at h1; simp at h1
  | tow =>
    simp only [hk, Prod.mk.injEq] at h1 h2 hcut ⊢
    rw [hcut _ (by nofun) rfl]
    obtain ⟨z1, z2, z3, z4, z5⟩ := pieceErr_zero h1
    simp only at z1 z2 z3 z4 z5
    have hq : placeErr q = 0 := z3
    obtain ⟨p1, p2, p3⟩ := cut_at (pbytes q ++ 32 :: decDigits n.toNat) (nfree z1)
    obtain ⟨q1, q2, q3⟩ := cut_at (decDigits n.toNat) (pfree hq)
    obtain ⟨b1, b2⟩ := back13 (n := n) (by omega) (by omega)
    unfold partC num2 tail2
    simp only
    rw [p1, p2, p3, q1, q2, q3, b1, b2, arr_data, readP_pbytes (okP_of hq)]
    obtain ⟨-, ⟨rfl, rfl⟩, ⟨-, rfl, rfl, rfl⟩, h5, -, -⟩ := h2
    have h5' : p = zeroP := h5
    subst h5'
    rfl
  | frm =>
    simp only [hk, Prod.mk.injEq] at h1 h2 hcut ⊢
    rw [hcut _ (by nofun) rfl]
    obtain ⟨z1, z2, z3, z4, z5⟩ := pieceErr_zero h1
    simp only at z1 z2 z3 z4 z5
    have hp : placeErr p = 0 := z2
    obtain ⟨p1, p2, p3⟩ := cut_at (pbytes p ++ 32 :: decDigits n.toNat) (nfree z1)
    obtain ⟨q1, q2, q3⟩ := cut_at (decDigits n.toNat) (pfree hp)
    obtain ⟨b1, b2⟩ := back13 (n := n) (by omega) (by omega)
    unfold partC num2 tail2
    simp only
    rw [p1, p2, p3, q1, q2, q3, b1, b2, arr_data, readP_pbytes (okP_of hp)]
    obtain ⟨-, ⟨rfl, rfl⟩, ⟨-, rfl, rfl, rfl⟩, -, h5, -⟩ := h2
    have h5' : q = zeroP := h5
    subst h5'
    rfl
  | move =>
    simp only [hk, Prod.mk.injEq] at h1 h2 hcut ⊢
    rw [hcut _ (by nofun) rfl]
    obtain ⟨z1, z2, z3, z4, z5⟩ := pieceErr_zero h1
    simp only at z1 z2 z3 z4 z5
    have hp : placeErr p = 0 := z2
    have hq : placeErr q = 0 := z3
    obtain ⟨p1, p2, p3⟩ := cut_at (pbytes p ++ 32 :: (pbytes q ++ 32 :: decDigits n.toNat)) (nfree z1)
    obtain ⟨q1, q2, q3⟩ := cut_at (pbytes q ++ 32 :: decDigits n.toNat) (pfree hp)
    obtain ⟨r1, r2, r3⟩ := cut_at (decDigits n.toNat) (pfree hq)
    obtain ⟨b1, b2⟩ := back13 (n := n) (by omega) (by omega)
    unfold partC num3 tail3 tail2
    simp only
    rw [p1, p2, p3, q1, q2, q3, r1, r2, r3, b1, b2, arr_data, readP_pbytes (okP_of hp), readP_pbytes (okP_of hq)]
    obtain ⟨-, ⟨rfl, rfl⟩, ⟨-, rfl, rfl, rfl⟩, -, -, -⟩ := h2
    rfl
  | hold =>
    simp only [hk, Prod.mk.injEq] at h1 h2 hcut ⊢
    rw [hcut _ (by nofun) rfl]
    obtain ⟨z1, z2, z3, z4, z5⟩ := pieceErr_zero h1
    simp only at z1 z2 z3 z4 z5
    obtain ⟨p1, p2, p3⟩ := cut_at (decDigits n.toNat) (nfree z1)
    obtain ⟨b1, b2⟩ := back13 (n := n) (by omega) (by omega)
    unfold partC num1 tail1
    simp only
    rw [p1, p2, p3, b1, b2, arr_data]
    obtain ⟨-, ⟨rfl, rfl⟩, ⟨-, rfl, rfl, rfl⟩, h4, h5, -⟩ := h2
    have h4' : p = zeroP := h4
    have h5' : q = zeroP := h5
    subst h4' h5'
    rfl
/-- An entry is read as it was written. -/
theorem readE_back {e : En} (h : entErr e = 0) : readE (etext e).data.toList = (e, 0) := by
  unfold etext
  rw [if_pos h]
  show readE (entB e) = _
  unfold readE
  rw [partE_back h, if_pos rfl, if_pos h]
/-- Two have one text only if they are one. -/
theorem etext_inj {a b : En} (ha : entErr a = 0) (hb : entErr b = 0) : etext a = etext b ↔ a = b := by
  refine ⟨fun h => ?_, fun h => by rw [h]⟩
  have h1 := readE_back ha
  rw [h, readE_back hb] at h1
  exact (congrArg Prod.fst h1).symm
end Go.Proofs.YtgdhfipbbijngaaGreatDoor
namespace Go.Proofs.YtgdhfipbbijngaaGreatDoor
open Go.RowKit Go.Lib Go.Sort

theorem wlen_one {l : List UInt8} (h : (splitL 32 l).length = 1) : has 32 l = false ∧ splitL 32 l = [l] := by
  cases hb : has 32 l with
  | false => exact ⟨rfl, split_none hb⟩
  | true =>
    rw [split_some hb] at h
    have := split_pos 32 (post 32 l)
    simp only [List.length_cons] at h
    exact absurd (List.eq_nil_of_length_eq_zero (by omega)) this
theorem wlen_some {l : List UInt8} (hb : has 32 l = true) : splitL 32 l = cutA 32 l :: splitL 32 (cutB 32 l) := by rw [split_some hb, cutA_yes hb, cutB_yes hb]
theorem wlen_more {l : List UInt8} {n : Nat} (h : (splitL 32 l).length = n + 2) : has 32 l = true ∧ (splitL 32 (cutB 32 l)).length = n + 1 := by
  cases hb : has 32 l with
  | false => rw [split_none hb] at h; simp at h
  | true => rw [wlen_some hb] at h; exact ⟨rfl, by simpa using h⟩
theorem wlen_cut {l : List UInt8} (h : has 32 l = true) : (splitL 32 l).length = (splitL 32 (cutB 32 l)).length + 1 := by rw [wlen_some h]; simp
theorem wlen_num {n : Nat} {l : List UInt8} (h : isNum n l = true) : (splitL 32 l).length = 1 := by
  rw [split_none (has_of_all (by decide) (isNum_facts h).1)]; rfl
theorem has_back {l : List UInt8} (h : has 32 (cutB 32 l) = true) : has 32 l = true := by
  cases hb : has 32 l with
  | true => rfl
  | false => rw [cutB_no hb] at h; exact absurd h (by decide)
/-- The first word. -/
theorem wlen_head (l : List UInt8) : ∃ t, splitL 32 l = cutA 32 l :: t := by
  cases hb : has 32 l with
  | true => exact ⟨_, wlen_some hb⟩
  | false => exact ⟨[], by rw [split_none hb]; unfold cutA; rw [hb]; rfl⟩
/-- Three, four, five words. -/
theorem words3 {l : List UInt8} (h : (splitL 32 l).length = 3) : splitL 32 l = [cutA 32 l, cutA 32 (cutB 32 l), tail1 (cutB 32 l)] ∧ num1 (cutB 32 l) = isNum 13 (tail1 (cutB 32 l)) := by
  obtain ⟨h1, h2⟩ := wlen_more h
  obtain ⟨h3, h4⟩ := wlen_more h2
  obtain ⟨-, h5⟩ := wlen_one h4
  refine ⟨by rw [wlen_some h1, wlen_some h3, h5]; rfl, ?_⟩
  unfold num1
  rw [h3]; rfl
theorem words4 {l : List UInt8} (h : (splitL 32 l).length = 4) : splitL 32 l = [cutA 32 l, cutA 32 (cutB 32 l), cutA 32 (cutB 32 (cutB 32 l)), tail2 (cutB 32 l)] ∧ num2 (cutB 32 l) = isNum 13 (tail2 (cutB 32 l)) := by
  obtain ⟨h1, h2⟩ := wlen_more h
  obtain ⟨h3, h4⟩ := wlen_more h2
  obtain ⟨h5, h6⟩ := wlen_more h4
  obtain ⟨-, h7⟩ := wlen_one h6
  refine ⟨by rw [wlen_some h1, wlen_some h3, wlen_some h5, h7]; rfl, ?_⟩
  unfold num2
  rw [h3, h5]; rfl
theorem words5 {l : List UInt8} (h : (splitL 32 l).length = 5) : splitL 32 l = [cutA 32 l, cutA 32 (cutB 32 l), cutA 32 (cutB 32 (cutB 32 l)), cutA 32 (tail2 (cutB 32 l)), tail3 (cutB 32 l)] ∧ num3 (cutB 32 l) = isNum 13 (tail3 (cutB 32 l)) := by
  obtain ⟨h1, h2⟩ := wlen_more h
  obtain ⟨h3, h4⟩ := wlen_more h2
  obtain ⟨h5, h6⟩ := wlen_more h4
  obtain ⟨h7, h8⟩ := wlen_more h6
  obtain ⟨-, h9⟩ := wlen_one h8
  refine ⟨by rw [wlen_some h1, wlen_some h3, wlen_some h5, wlen_some h7, h9]; rfl, ?_⟩
  unfold num3 tail2
  rw [h3, h5, h7]; rfl
theorem few3 {l : List UInt8} (h : (splitL 32 l).length ≠ 3) : num1 (cutB 32 l) = false := by
  cases hn : num1 (cutB 32 l) with
  | false => rfl
  | true =>
    unfold num1 tail1 at hn
    simp only [Bool.and_eq_true] at hn
    exact absurd (by rw [wlen_cut (has_back hn.1), wlen_cut hn.1, wlen_num hn.2]) h
theorem few4 {l : List UInt8} (h : (splitL 32 l).length ≠ 4) : num2 (cutB 32 l) = false := by
  cases hn : num2 (cutB 32 l) with
  | false => rfl
  | true =>
    unfold num2 tail2 at hn
    simp only [Bool.and_eq_true] at hn
    exact absurd (by rw [wlen_cut (has_back hn.1), wlen_cut hn.1, wlen_cut hn.2.1, wlen_num hn.2.2]) h
theorem few5 {l : List UInt8} (h : (splitL 32 l).length ≠ 5) : num3 (cutB 32 l) = false := by
  cases hn : num3 (cutB 32 l) with
  | false => rfl
  | true =>
    unfold num3 tail3 tail2 at hn
    simp only [Bool.and_eq_true] at hn
    exact absurd (by rw [wlen_cut (has_back hn.1), wlen_cut hn.1, wlen_cut hn.2.1, wlen_cut hn.2.2.1, wlen_num hn.2.2.2]) h
end Go.Proofs.YtgdhfipbbijngaaGreatDoor
