/- What the walks need not see. -/
import Derived.Lib.MapLaws
import Derived.Deep.AppendLies
import Derived.Test.YtohhokjlgihbgabGreatDoorProg
namespace Go.Proofs.YtohhokjlgihbgabGreatDoor
open Go.RowKit

theorem hid {p : Prop} (h : p) : Hid p := h
end Go.Proofs.YtohhokjlgihbgabGreatDoor
