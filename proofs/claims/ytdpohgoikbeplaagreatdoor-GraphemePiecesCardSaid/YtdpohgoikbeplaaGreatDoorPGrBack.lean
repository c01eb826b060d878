/- GrBack: parts of the proof, joined. -/
import Derived.Test.YtdpohgoikbeplaaGreatDoorPGrFst
import Derived.Test.YtdpohgoikbeplaaGreatDoorPMixIn
namespace Go.Proofs.YtdpohgoikbeplaaGreatDoor.Wt
open Go.RowKit Go.Shelf
attribute [local go_sem] Oper.semAt_some
theorem ext_piece (l : List UInt8) (f t : Nat) (h : f <= t) : (⟨l.toArray⟩ : ByteArray).extract f t = ⟨((l.take t).drop f).toArray⟩ := by
 apply ByteArray.ext
 simp [ByteArray.data_extract, List.take_drop]
 rw [show f + (t - f) = t by omega]
def KrB (K : Nat -> Prop) (B : Nat) (W W' : World) : Prop := KrW K W W' /\ ∀ k c fz, B <= k -> W.heap[k]? = some (.cells c 3 fz) -> W'.heap[k]? = some (.cells c 3 fz)
theorem KrB_t {K : Nat -> Prop} {B : Nat} {X Y Z : World} (h : KrB K B X Y) (k : KrB K B Y Z) : KrB K B X Z := ⟨KrW_t h.1 k.1, fun i c fz hi h1 => k.2 i c fz hi (h.2 i c fz hi h1)⟩
theorem KrB_b {K : Nat -> Prop} {B : Nat} {w : World} (hw : ∀ k, K k -> k < w.heap.size) (W : World) (l : Nat) (o o' : Obj) (hl : w.heap.size <= l) (h : W.heap[l]? = some o) (hc : o.isCells = false) (hk : o.isWalk = false) : KrB K B W (W.putObj l o') :=
 ⟨KrW_b hw W l o o' hl h hc hk, fun k c fz _ h1 => (World.putObj_heap_other (fun e => by
  subst e; rw [h] at h1
  cases h1
  cases hc)).trans h1⟩
def RwB (W : World) (g : Nat) (xs : List Int) : Prop := (∃ c fz, W.heap[g]? = some (.cells c 3 fz)) /\ ∀ (i : Nat) (z : Int), xs[i]? = some z -> W.cell? ⟨g, i, none⟩ = some (.int .i64 z)
theorem RwB.keeps {W W' : World} {g : Nat} {xs : List Int} (h : RwB W g xs) (hk : ∀ c fz, W.heap[g]? = some (.cells c 3 fz) -> W'.heap[g]? = some (.cells c 3 fz)) : RwB W' g xs := by
 obtain ⟨⟨c, fz, h1⟩, h2⟩ := h
 have h3 := hk c fz h1
 exact ⟨⟨c, fz, h3⟩, fun i z hz => (World.cell?_of_block (w := W) (a := ⟨g, i, none⟩) (h3.trans h1.symm)).trans (h2 i z hz)⟩
theorem rwb_own {B n cap g : Nat} {xs : List Int} {w : World} (h : w.ownsRow B 3 1 (.slice (some ⟨g, 0, none⟩) n cap) n (i64s xs)) (hn : n = xs.length) : RwB w g xs /\ B <= g := by
 rcases h.2 with ⟨h', _⟩ | ⟨q, cap', cur, h', hb, hg, hnc, hcm, hcs, htk⟩
 ·cases h'
 ·simp only [Value.slice.injEq, Option.some.injEq, Addr.mk.injEq, true_and, and_true] at h'
  obtain ⟨rfl, rfl⟩ := h'
  refine ⟨⟨⟨cur, _, hg⟩, fun i z hz => ?_⟩, hb⟩
  have hi := (List.getElem?_eq_some_iff.1 hz).1
  have h3 := h.cellAt i (by omega)
  rw [h3]
  unfold i64s
  rw [List.getElem?_map, hz]; rfl
theorem gtos_at {sg : List UInt8} (M : List (Pl sg)) (hM : M.map Pl.v = gpF sg 0) (i : Nat) (hi : i < M.length) : (gtos M)[i]? = some ((M[i]).v.1 : Int) /\ (gtos M)[i + 1]? = some ((M[i]).v.2 : Int) := by
 have hp : gpF sg 0 = plc 0 (pcl gc (rl sg)) := gpF_0 sg
 have hil : i < (plc 0 (pcl gc (rl sg))).length := by rw [<- hp, <- hM, List.length_map]; exact hi
 have h1 := plc_chain _ 0 i hil
 have e1 : (plc 0 (pcl gc (rl sg)))[i] = (M[i]).v := by
  have : (plc 0 (pcl gc (rl sg))) = M.map Pl.v := by rw [hM, hp]
  simp only [this, List.getElem_map]
 have e2 : (0 :: (plc 0 (pcl gc (rl sg))).map (·.2)) = 0 :: M.map (fun x => x.v.2) := by rw [<- hp, <- hM, List.map_map]; rfl
 rw [e1] at h1
 refine ⟨?_, ?_⟩
 ·have h2 : (0 :: M.map (fun x => x.v.2))[i]? = some ((M[i]).v.1) := by
   rw [<- e2, List.getElem?_eq_getElem (by rw [List.length_cons, List.length_map]; omega), <- h1]
  have h3 : gtos M = (0 :: M.map (fun x => x.v.2)).map (fun (z : Nat) => (z : Int)) := by simp [gtos]
  rw [h3, List.getElem?_map, h2]; rfl
 ·simp [gtos, hi]
theorem rest_step {l sg : List UInt8} (b : Nat) (M : List (Pl sg)) (r2 : List (Pl l)) (i : Nat) (hi : i < M.length) (h : r2.map Pl.v = ((M.take (i + 1)).map fun x => (b + x.v.1, b + x.v.2)).reverse) :
  ∃ x r', r2 = x :: r' /\ x.v = (b + (M[i]).v.1, b + (M[i]).v.2) /\ r'.map Pl.v = ((M.take i).map fun x => (b + x.v.1, b + x.v.2)).reverse := by
 rw [List.take_succ_eq_append_getElem hi, List.map_append, List.reverse_append] at h
 cases r2 with
 | nil => cases h
 | cons x r' =>
  have h' : x.v :: r'.map Pl.v = (b + (M[i]).v.1, b + (M[i]).v.2) :: ((M.take i).map fun x => (b + x.v.1, b + x.v.2)).reverse := h
  obtain ⟨h1, h2⟩ := List.cons.inj h'
  exact ⟨x, r', rfl, h1, h2⟩
end Go.Proofs.YtdpohgoikbeplaaGreatDoor.Wt
