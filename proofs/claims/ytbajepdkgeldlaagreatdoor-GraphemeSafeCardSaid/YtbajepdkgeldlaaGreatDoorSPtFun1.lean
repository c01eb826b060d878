/- PtFun1, PtNone, PtRd, PtLead, PtSE, PtEn, PtAp, PtDc: parts of the proof, joined. -/
import Derived.Deep.AppendLies
import Derived.WalkSpells
import Derived.WalkLawsBesides
import Derived.BigQuiet
import Derived.Test.YtbajepdkgeldlaaGreatDoorSChMath
import Derived.Test.YtbajepdkgeldlaaGreatDoorSMix
namespace Go.Proofs.YtbajepdkgeldlaaGreatDoor
open Go.RowKit
namespace Pt
theorem hid {p : Prop} (h : p) : Hid p := h
def us (m : Nat) (r : Nat -> Nat) : List Value := (List.range m).map fun j => .int .u64 (r j)
structure Ony (b : Nat) (w w' : World) : Prop where
 os : w'.os = w.os
 tape : w'.tape = w.tape
 output : w'.output = w.output
 size : w'.heap.size = w.heap.size
 block : ∀ k, k ≠ b -> w'.heap[k]? = w.heap[k]?
theorem Ony.trans {b : Nat} {w v u : World} (h : Ony b w v) (k : Ony b v u) : Ony b w u := ⟨k.os.trans h.os, k.tape.trans h.tape, k.output.trans h.output, k.size.trans h.size, fun i hi => (k.block i hi).trans (h.block i hi)⟩
theorem Ony.set (b j : Nat) (w : World) (v : Value) : Ony b w (w.setCell ⟨b, j, none⟩ v) := ⟨rfl, rfl, rfl, by simp, fun k hk => heap_setCell_other w _ k v hk⟩
end Pt
end Go.Proofs.YtbajepdkgeldlaaGreatDoor
namespace Go.Proofs.YtbajepdkgeldlaaGreatDoor
open Go.RowKit
namespace Pt
theorem heap_lt {w : World} {b : Nat} {o : Obj} (h : w.heap[b]? = some o) : b < w.heap.size := (Array.getElem?_eq_some_iff.1 h).1
end Pt
end Go.Proofs.YtbajepdkgeldlaaGreatDoor
namespace Go.Proofs.YtbajepdkgeldlaaGreatDoor
open Go.RowKit
namespace Pt
theorem add_blk (a : Addr) (k : Nat) : (a.add k).block = a.block := by unfold Addr.add; split <;> rfl
def RdI (w : World) (ao : Option Addr) (l : List Int) : Prop :=
 ∀ (k : Nat) (z : Int), l[k]? = some z -> ∃ a : Addr, ao = some a /\ a.block < w.heap.size /\ w.cell? (a.add k) = some (.int .i64 z)
theorem RdI.below {w w' : World} {ao : Option Addr} {l : List Int} (h : RdI w ao l) (hb : Below w.heap.size w w') : RdI w' ao l := fun k z hk => by
 obtain ⟨a, h1, h2, h3⟩ := h k z hk
 exact ⟨a, h1, Nat.lt_of_lt_of_le h2 hb.size, (hb.cell (p := a.add k) (by rw [add_blk]; exact h2)).trans h3⟩
mutual
def RdP (w : World) : Pat -> Value -> Value -> Value -> Prop
 | .mk op cls kids, v0, v1, v2 => v0 = .int .i64 op /\ (∃ co cc, v1 = .slice co cls.length cc /\ RdI w co cls /\ cls.length <= 1000000) /\ (∃ ko kc, v2 = .slice ko kids.length kc /\ RdK w kids ko 0 /\ kids.length <= 1000000)
def RdK (w : World) : List Pat -> Option Addr -> Nat -> Prop
 | [], _, _ => True
 | p :: ps, ko, i => (∃ b o, ko = some ⟨b, o, none⟩ /\ b < w.heap.size /\ ∃ v0 v1 v2, w.cell? ⟨b, o + i * 3, none⟩ = some v0 /\ w.cell? ⟨b, o + i * 3 + 1, none⟩ = some v1 /\ w.cell? ⟨b, o + i * 3 + 2, none⟩ = some v2 /\ RdP w p v0 v1 v2) /\ RdK w ps ko (i + 1)
end
mutual
theorem RdP.below {w w' : World} (hb : Below w.heap.size w w') : ∀ (p : Pat) (v0 v1 v2 : Value), RdP w p v0 v1 v2 -> RdP w' p v0 v1 v2
 | .mk op cls kids, v0, v1, v2, h => by
  unfold RdP at h ⊢
  obtain ⟨h1, ⟨co, cc, h2, h3, h4⟩, ko, kc, h5, h6, h7⟩ := h
  exact ⟨h1, ⟨co, cc, h2, h3.below hb, h4⟩, ko, kc, h5, RdK.below hb kids ko 0 h6, h7⟩
theorem RdK.below {w w' : World} (hb : Below w.heap.size w w') : ∀ (ps : List Pat) (ko : Option Addr) (i : Nat), RdK w ps ko i -> RdK w' ps ko i
 | [], _, _, _ => by unfold RdK; trivial
 | p :: ps, ko, i, h => by
  unfold RdK at h ⊢
  obtain ⟨⟨b, o, h1, h2, v0, v1, v2, h3, h4, h5, h6⟩, h7⟩ := h
  have hc : ∀ k v, w.cell? ⟨b, k, none⟩ = some v -> w'.cell? ⟨b, k, none⟩ = some v := fun k v hk => (hb.cell (p := ⟨b, k, none⟩) h2).trans hk
  exact ⟨⟨b, o, h1, Nat.lt_of_lt_of_le h2 hb.size, v0, v1, v2, hc _ _ h3, hc _ _ h4, hc _ _ h5, RdP.below hb p _ _ _ h6⟩, RdK.below hb ps ko (i + 1) h7⟩
end
end Pt
end Go.Proofs.YtbajepdkgeldlaaGreatDoor
namespace Go.Proofs.YtbajepdkgeldlaaGreatDoor
open Go.RowKit
namespace Pt
theorem below_box {w : World} {o : Obj} : Below w.heap.size w (w.alloc o) := (Below.refl _ _).alloc (Nat.le_refl _) _
section
variable (lo co : Option Addr) (ln lc b o kn kc cn cc m : Nat) (u0 u1 u2 : Value) (R : Nat -> Nat -> Prop) (w : World)
end
end Pt
end Go.Proofs.YtbajepdkgeldlaaGreatDoor
namespace Go.Proofs.YtbajepdkgeldlaaGreatDoor
open Go.RowKit
namespace Pt
def i64n (L : List Nat) : List Value := L.map fun (x : Nat) => .int .i64 (x : Int)
open Classical in
noncomputable def flt (A : Nat -> Prop) (n : Nat) : List Nat := (List.range n).filter fun i => decide (A i)
theorem flt_mem (A : Nat -> Prop) (n x : Nat) : x ∈ flt A n ↔ x < n /\ A x := by simp [flt]
def LsQ (w : World) (L : List Nat) (e : Ending) (w' : World) : Prop := ∃ (vo : Option Addr) (vc : Nat), e = .returned (.slice vo L.length vc) /\ w'.ownsRow w.heap.size 3 1 (.slice vo L.length vc) L.length (i64n L) /\ Below w.heap.size w w'
end Pt
end Go.Proofs.YtbajepdkgeldlaaGreatDoor
namespace Go.Proofs.YtbajepdkgeldlaaGreatDoor
open Go.RowKit
namespace Pt
theorem rdi_own {w : World} {B : Nat} {vo : Option Addr} {vc n : Nat} {L : List Nat} (h : w.ownsRow B 3 1 (.slice vo n vc) n (i64n L)) (hn : n = L.length) : RdI w vo (L.map fun (x : Nat) => (x : Int)) := fun k z hk => by
 have hk1 := (List.getElem?_eq_some_iff.1 hk).1
 rw [List.length_map] at hk1
 rcases h.2 with ⟨h1, h2⟩ | ⟨g, cap, cur, h1, h2, h3, h4, h5, h6, h7⟩
 ·omega
 ·cases h1
  refine ⟨⟨g, 0, none⟩, rfl, heap_lt h3, ?_⟩
  rw [Addr.add_lit, Nat.zero_add, cell_of_row w g k cur _ _ h3]
  have e : (i64n L)[k]? = some (.int .i64 z) := by
   unfold i64n
   rw [List.getElem?_map] at hk ⊢
   cases hl : L[k]? with
   | none => rw [hl] at hk; cases hk
   | some y => rw [hl] at hk; simp at hk; simp [hk]
  rw [<- h7, List.getElem?_take_of_lt (by omega)] at e
  simpa using e
end Pt
end Go.Proofs.YtbajepdkgeldlaaGreatDoor
namespace Go.Proofs.YtbajepdkgeldlaaGreatDoor
open Go.RowKit
namespace Pt
structure Rl where
 brk : Bool
 st : Bool
 en : Bool
 left : Pat
 right : Pat
def App (r : Rl) (c : List Int) (k : Nat) : Prop := (∃ i, i <= k /\ led c r.left i k) /\ (∃ j, k <= j /\ j <= c.length /\ led c r.right k j) /\ (r.st = true -> led c r.left 0 k) /\ (r.en = true -> led c r.right k c.length)
end Pt
end Go.Proofs.YtbajepdkgeldlaaGreatDoor
namespace Go.Proofs.YtbajepdkgeldlaaGreatDoor
open Go.RowKit
namespace Pt
def RdRl (w : World) (ro : Option Addr) (rs : List Rl) : Prop := ∀ (j : Nat) (r : Rl), rs[j]? = some r -> ∃ b o l0 l1 l2 r0 r1 r2, ro = some ⟨b, o, none⟩ /\ b < w.heap.size /\ w.cell? ⟨b, o + j * 9, none⟩ = some (.bool r.brk) /\ w.cell? ⟨b, o + j * 9 + 1, none⟩ = some (.bool r.st) /\ w.cell? ⟨b, o + j * 9 + 2, none⟩ = some (.bool r.en) ∧
 w.cell? ⟨b, o + j * 9 + 3, none⟩ = some l0 /\ w.cell? ⟨b, o + j * 9 + 4, none⟩ = some l1 /\ w.cell? ⟨b, o + j * 9 + 5, none⟩ = some l2 /\ w.cell? ⟨b, o + j * 9 + 6, none⟩ = some r0 /\ w.cell? ⟨b, o + j * 9 + 7, none⟩ = some r1 /\ w.cell? ⟨b, o + j * 9 + 8, none⟩ = some r2 /\ RdP w r.left l0 l1 l2 /\ RdP w r.right r0 r1 r2
theorem RdRl.below {w w' : World} {ro : Option Addr} {rs : List Rl} (h : RdRl w ro rs) (hb : Below w.heap.size w w') : RdRl w' ro rs := fun j r hj => by
 obtain ⟨b, o, l0, l1, l2, r0, r1, r2, h0, hl, a0, a1, a2, a3, a4, a5, a6, a7, a8, p1, p2⟩ := h j r hj
 have hc : ∀ k v, w.cell? ⟨b, k, none⟩ = some v -> w'.cell? ⟨b, k, none⟩ = some v := fun k v hk => (hb.cell (p := ⟨b, k, none⟩) hl).trans hk
 exact ⟨b, o, l0, l1, l2, r0, r1, r2, h0, Nat.lt_of_lt_of_le hl hb.size, hc _ _ a0, hc _ _ a1, hc _ _ a2, hc _ _ a3, hc _ _ a4, hc _ _ a5, hc _ _ a6, hc _ _ a7, hc _ _ a8, RdP.below hb _ _ _ _ p1, RdP.below hb _ _ _ _ p2⟩
open Classical in
noncomputable def dcd (rest : Bool) (c : List Int) (k : Nat) : List Rl -> Bool
 | [] => rest
 | r :: rs => if App r c k then r.brk else dcd rest c k rs
noncomputable def cutB (rest : Bool) (rs : List Rl) (c : List Int) (k : Nat) : Bool := if c = [] then false else if k = 0 \/ k = c.length then true else dcd rest c k rs
end Pt
end Go.Proofs.YtbajepdkgeldlaaGreatDoor
