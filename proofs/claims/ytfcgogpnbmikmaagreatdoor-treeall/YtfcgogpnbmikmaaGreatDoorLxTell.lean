/-
  Digits, letters, words, signs.
-/
import Derived.Test.YtfcgogpnbmikmaaGreatDoorLxMem
namespace Go.Proofs.YtfcgogpnbmikmaaGreatDoor
open Go.RowKit Go.WideShapes
namespace Lx

theorem toList_eq (s : ByteArray) : s.toList = s.data.toList := ByteArray.toList_eq s
end Lx
end Go.Proofs.YtfcgogpnbmikmaaGreatDoor
