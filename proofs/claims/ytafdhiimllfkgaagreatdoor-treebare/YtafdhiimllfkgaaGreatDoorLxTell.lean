/-
  Digits, letters, words, signs.
-/
import Derived.Test.YtafdhiimllfkgaaGreatDoorLxMem
namespace Go.Proofs.YtafdhiimllfkgaaGreatDoor
open Go.RowKit Go.WideShapes
namespace Lx

theorem toList_eq (s : ByteArray) : s.toList = s.data.toList := ByteArray.toList_eq s
end Lx
end Go.Proofs.YtafdhiimllfkgaaGreatDoor
