/- Br9: parts of the proof, joined. -/
import Derived.Test.YtbajepdkgeldlaaGreatDoorSBr11
import Derived.Test.YtbajepdkgeldlaaGreatDoorSKit
namespace Go.Proofs.YtbajepdkgeldlaaGreatDoor.Pt
open Go.RowKit
def dcl (A : List Dc.Tr) (l : List UInt8) : List Nat := (rl l).map fun x => Dc.gtp (Dc.instd (x.1 : Int)) A
theorem plr_rl (l : List UInt8) : ∀ (n p : Nat), l.length - p <= n -> (Dc.plr l p).map (fun x => x.2) = (rl (l.drop p)).map fun x => (x.1 : Int)
 | n, p, hn => by
  by_cases h : p < l.length
  ·have hne := drop_ne l p h
   have w1 := wid_ge l p h
   cases n with
   | zero => omega
   | succ n =>
    rw [Dc.plr_step l p h, decode_place l p h, rl_cons _ hne, List.map_cons, List.map_cons, List.drop_drop]
    have := plr_rl l n (p + wid l p) (by omega)
    unfold wid at this
    rw [this]
  ·rw [Dc.plr_end l p h, List.drop_of_length_le (by omega)]; rfl
theorem cl64_dcl (A : List Dc.Tr) (l : List UInt8) : Dc.cl64 (Dc.evs A l 0) = i64n (dcl A l) := by
 have h := congrArg (List.map fun z => Value.int .i64 ((Dc.gtp (Dc.instd z) A : Nat) : Int)) (plr_rl l l.length 0 (by omega))
 rw [List.drop_zero, List.map_map, List.map_map] at h
 unfold Dc.cl64 Dc.evs dcl i64n
 rw [List.map_map, List.map_map]
 exact h
theorem dcl_len (A : List Dc.Tr) (l : List UInt8) : (dcl A l).length = (rl l).length := List.length_map ..
theorem evs_rl (A : List Dc.Tr) (l : List UInt8) : (Dc.evs A l 0).length = (rl l).length := by
 have h := congrArg List.length (cl64_dcl A l)
 unfold Dc.cl64 i64n at h
 rw [List.length_map, List.length_map, dcl_len] at h
 exact h
def dcs (A : List Dc.Tr) (l : List UInt8) : List Int := (dcl A l).map fun (x : Nat) => (x : Int)
def egs (l : List UInt8) : List Nat := (List.range ((rl l).length + 1)).map (Wt.pos l)
theorem edg_egs (l : List UInt8) : (edg l).map (Value.int .i64) = i64n (egs l) := by
 rw [Rf.edg_pos]
 unfold i64n egs
 rw [List.map_map, List.map_map]; rfl
theorem edg_len2 (l : List UInt8) : (edg l).length = (rl l).length + 1 := by rw [Rf.edg_pos]; simp
theorem egs_len (l : List UInt8) : (egs l).length = (rl l).length + 1 := by simp [egs]
theorem own_sl {w : World} {B n : Nat} {v : Value} {L : List Nat} (h : w.ownsRow B 3 1 v n (i64n L)) : ∃ vo vc, v = .slice vo n vc /\ n <= vc /\ (0 < n -> ∃ g, vo = some ⟨g, 0, none⟩) := by
 rcases h.2 with ⟨h1, h2⟩ | ⟨g, cap, cur, h1, _, _, h4, _⟩
 ·exact ⟨none, 0, by rw [h1, h2], by omega, fun e => by omega⟩
 ·exact ⟨_, cap, h1, h4, fun _ => ⟨g, rfl⟩⟩
end Go.Proofs.YtbajepdkgeldlaaGreatDoor.Pt
