/- The contract of Trim (package runes). -/
import Derived.Test.YtfahbdlcokoghabDoorTwNest
import Derived.RegionIn
namespace Go.Proofs.YtfahbdlcokoghabDoor
open Go.RowKit Go.Shelf
attribute [local go_sem] Oper.semAt_some

def tbg {l : List UInt8} (xs : List (Tw l)) : Nat := xs.foldl (fun b x => min b x.val.1) l.length
def ten {l : List UInt8} (xs : List (Tw l)) : Nat := xs.foldl (fun _ x => x.val.2) l.length
theorem tbg_snoc {l : List UInt8} (xs : List (Tw l)) (x : Tw l) : tbg (xs ++ [x]) = min (tbg xs) x.val.1 := by simp [tbg]
theorem ten_snoc {l : List UInt8} (xs : List (Tw l)) (x : Tw l) : ten (xs ++ [x]) = x.val.2 := by simp [ten]
/-- The runs of what is not in the set. -/
def ntr (g : List Rg) (l : List UInt8) : List (Tw l) := rst (fun r => hasB r (nrm (nt g))) l none 0

theorem kr_box {Bs Bl B : Nat} {l : List UInt8} {so : Option Addr} {sc : Nat} {s : List Rg} {v : Value} {W : World} (h : RunsAt Bs Bl l so sc s W) (hb : Boxed W B 3 v) : ∀ k, KR Bs Bl so k → k ≠ B := fun k hk e => by
  subst e
  rcases hk with rfl | rfl | ⟨a, h1, rfl⟩
  · have := h.bs; unfold Boxed at this hb; rw [hb] at this; cases this
  · have := h.bl; unfold Boxed at this hb; rw [hb] at this; cases this
  · obtain ⟨c, fz, hc⟩ := h.row a h1
    unfold Boxed at hb; rw [hb] at hc; cases hc
theorem boxed_bl {n B : Nat} {t : TypeId} {v : Value} {W W' : World} (h : Boxed W B t v) (hB : Below n W W') (hlt : B < n) : Boxed W' B t v := (hB.block B hlt).trans h

end Go.Proofs.YtfahbdlcokoghabDoor

