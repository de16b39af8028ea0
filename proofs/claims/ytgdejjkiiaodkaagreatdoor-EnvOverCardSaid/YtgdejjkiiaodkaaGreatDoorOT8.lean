/- RefEnv1 -/
import Derived.ChangeAlike
import Derived.RegionTactic
import Derived.Test.YtgdejjkiiaodkaaGreatDoorOT7
set_option linter.unusedVariables false
set_option linter.unusedSimpArgs false
set_option maxRecDepth 100000
set_option maxHeartbeats 16000000
namespace Go.Proofs.YtgdejjkiiaodkaaGreatDoor
section
open Go.RowKit Go.Sort
open Nw V12
def gotV (l : List KV) (k : L8) : ByteArray := ba ((lastV l k).getD [])
def gotB (l : List KV) (k : L8) : Bool := (lastV l k).isSome
end
end Go.Proofs.YtgdejjkiiaodkaaGreatDoor
