/-
  SameNodes.
-/
import Derived.Test.YtdfgmdddnehocabDoorTKept
namespace Go.Proofs.YtdfgmdddnehocabDoor
open Go.RowKit Go.Maps Go.Lib

end Go.Proofs.YtdfgmdddnehocabDoor
