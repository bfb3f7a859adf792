/-
  The law EntryBack answers true, whatever the entries; over every world that holds the sentinels and strconv's table of powers as the program lays them; nothing old is turned.
-/
import Derived.Test.YtcipbkaopnaiiacDoorEBackB
import Derived.Test.YtcipbkaopnaiiacDoorEBackC
namespace Go.Proofs.YtcipbkaopnaiiacDoor
open Go.RowKit Go.Lib Go.Sort

/-- EntryBack. -/
theorem back_any (a b : En) (w : World) (s : Nat → Addr) (hs : Es w s) (hp : Pow w) (ha : SzE a) (hb : SzE b) :
    Calls Tryd.prog 3 #[agE a, agE b] w fun e w' => e = .returned (.bool true) ∧ Below w.heap.size w w' := by
  cases hla : longE a with
  | true => exact back_long a b w s hs hp ha hb (Or.inl hla)
  | false =>
    cases hlb : longE b with
    | true => exact back_long a b w s hs hp ha hb (Or.inr hlb)
    | false =>
      by_cases h : entErr a = 0
      · by_cases h1 : entErr b = 0
        · by_cases hab : a = b
          · exact back_same a b w s hs hp ha hb hla hlb h h1 hab
          · exact back_other a b w s hs hp ha hb hla hlb h h1 hab
        · exact back_b a b w s hs hp ha hb hla hlb h h1
      · exact back_a a b w s hs hp ha hb hla hlb h
end Go.Proofs.YtcipbkaopnaiiacDoor
