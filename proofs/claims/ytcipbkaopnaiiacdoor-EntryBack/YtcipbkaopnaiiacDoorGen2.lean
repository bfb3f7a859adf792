/-
  What the library's contract of strings.genSplit asks of this program lies in the shelf's text: nothing is added here.
-/
import Derived.Test.YtcipbkaopnaiiacDoorShelf
