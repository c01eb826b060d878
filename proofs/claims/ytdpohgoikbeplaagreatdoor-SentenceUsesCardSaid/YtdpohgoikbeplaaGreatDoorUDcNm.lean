/- DcNm: parts of the proof, joined. -/
import Derived.Test.YtdpohgoikbeplaaGreatDoorUPtEv
import Derived.Test.YtdpohgoikbeplaaGreatDoorUTxMath
namespace Go.Proofs.YtdpohgoikbeplaaGreatDoor.Dc
open Go.RowKit
theorem Tryz.info9 : (Tryz.prog.info? 9).map (fun i => (i.zero, i.size, i.bytes)) = some (some (.string ⟨#[]⟩), 1, 16) := by kernel_rfl
def strs (U : List (List UInt8)) : List Value := U.map fun b => .string ⟨b.toArray⟩
set_option maxHeartbeats 1000000 in
set_option maxRecDepth 100000 in
theorem dnames_any (U : List (List UInt8)) (A : List Tr) (Q : Nat) (w : World) (h : Bk U A Q w) (h0 : 0 < U.length) (h9 : U.length <= 1000) :
  Calls Tryz.prog 101 #[.pointer (some ⟨Q, 0, none⟩)] w fun e w' => ∃ g nc, e = .returned (.slice (some ⟨g, 0, none⟩) U.length nc) /\ Pt.NmAt w' g nc (strs U) /\ w.heap.size <= g /\ Below w.heap.size w w' := by
 obtain ⟨i0, hi, hz0, hz1, hz2⟩ := info_parts Tryz.info9
 obtain ⟨a, ac, z0, _⟩ := h.names 0 U[0] (List.getElem?_eq_getElem h0)
 have hz : ∀ (j : Nat) (u : Value), (strs U)[j]? = some u -> w.cell? (a.add j) = some u := fun j u hj => by
  unfold strs at hj
  rw [List.getElem?_map] at hj
  cases hb : U[j]? with
  | none => rw [hb] at hj; cases hj
  | some b =>
   rw [hb] at hj
   cases hj
   obtain ⟨a2, ac2, y0, y1⟩ := h.names j b hb
   rw [z0] at y0
   cases y0
   exact y1
 have hab : a.block < w.heap.size := World.block_lt_of_cell? w _ (hz 0 _ (show (strs U)[0]? = some (.string ⟨(U[0]).toArray⟩) by unfold strs; rw [List.getElem?_map, List.getElem?_eq_getElem h0]; rfl)) |> fun e => by rwa [Pt.add_blk] at e
 have HZ := hid (fun (o : Obj) => fun (j : Nat) (u : Value) (hj : (strs U)[j]? = some u) => (Pt.below_box (w := w) (o := o)).cell (p := a.add j) (by rw [Pt.add_blk]; exact hab) |>.trans (hz j u hj))
 have HL := hid (show (strs U).length = U.length by simp [strs])
 have h1 : ∀ u ∈ strs U, u.oneCell' = true := fun u hu => by
  obtain ⟨b, _, rfl⟩ := List.mem_map.1 hu
  rfl
 have H1 := hid h1
 obtain ⟨N, hN⟩ : ∃ N, N = U.length := ⟨_, rfl⟩
 rw [<- hN] at z0 h0 h9 HL
 have HN := hid hN
 clear hz h1 h hN
 have hQ : Q < w.heap.size := World.block_lt_of_cell? w _ z0
 have z1 : (w.alloc (.cells #[] 9)).cell? ⟨Q, 0, none⟩ = some (.slice (some a) N ac) := ((Pt.below_box (w := w) (o := .cells #[] 9)).cell (p := ⟨Q, 0, none⟩) hQ).trans z0
 rw [<- HN.out]
 go_enter Tryz.func101, Tryz.ntmps101
 go_wp2_with (at_builtin; refine wpList_append_own _ rfl _ _ 63 rfl w.heap.size 9 i0 (.string ⟨#[]⟩) 1 16 Tryz.underlying63 hi hz0 hz1 hz2 rfl (by decide) _ 0 [] rfl (World.ownsRow_lit w #[] 0 (Nat.le_refl _) (by decide) (by simp)) a N ac (strs U) rfl (by rw [HL.out, Nat.mul_one]) (HZ.out _) H1.out (by unfold maxLen; omega) (by omega) (by simp) ?_)
 intro v' w2 hown hgrow _
 have hB2 : Below w.heap.size w w2 := (Pt.below_box (w := w) (o := .cells #[] 9)).grown hgrow (by simp) (fun k hk => by
  have : w.heap.size = k := by simpa [Value.ownBlock] using hk
  omega)
 have HB2 := hid hB2
 have HO := hid hown
 clear hown hgrow hB2
 go_wp2
 go_ret
 obtain ⟨e1, h2⟩ := HO.out
 rcases h2 with ⟨_, e2⟩ | ⟨g, cap, cur, rfl, k1, k2, k3, _, k5, k6⟩
 ·omega
 ·exact ⟨g, cap, rfl, ⟨cur, k2, by rw [k5, Nat.mul_one], by rw [HL.out]; exact k3, by rw [HL.out]; rw [Nat.mul_one] at k6; exact k6⟩, k1, HB2.out⟩
end Go.Proofs.YtdpohgoikbeplaaGreatDoor.Dc
