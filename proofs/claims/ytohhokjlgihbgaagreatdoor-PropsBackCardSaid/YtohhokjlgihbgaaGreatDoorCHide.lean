/- What the walks need not see. -/
import Derived.Lib.MapLaws
import Derived.Deep.AppendLies
import Derived.Test.YtohhokjlgihbgaaGreatDoorProg
namespace Go.Proofs.YtohhokjlgihbgaaGreatDoor
open Go.RowKit

theorem hid {p : Prop} (h : p) : Hid p := h
end Go.Proofs.YtohhokjlgihbgaaGreatDoor
