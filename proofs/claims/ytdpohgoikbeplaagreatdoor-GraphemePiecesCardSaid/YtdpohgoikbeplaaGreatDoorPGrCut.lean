/- GrCut: parts of the proof, joined. -/
import Derived.Test.YtdpohgoikbeplaaGreatDoorPPtGrM
import Derived.Test.YtdpohgoikbeplaaGreatDoorPGrFst
namespace Go.Proofs.YtdpohgoikbeplaaGreatDoor
namespace Pt
open Wt
theorem gcs_cl (l : List UInt8) : ∀ x ∈ gcs l, Cl x := fun x hx => by
 obtain ⟨y, _, rfl⟩ := List.mem_map.1 hx
 exact gc_cl y
theorem plc_cum (l : List UInt8) : ∀ (n q : Nat), q <= (rl l).length -> (plc (pos l q) (pcF gc n ((rl l).drop q))).map (·.2) = (cum n q ((gcs l).drop q)).map (pos l)
 | 0, q, _ => rfl
 | n + 1, q, hq => by
  have hd : (gcs l).drop q = ((rl l).drop q).map gc := by unfold gcs; rw [List.map_drop]
  unfold pcF cum
  rw [hd]
  by_cases e : (rl l).drop q = []
  ·rw [if_pos e, if_pos (by rw [e]; rfl)]; rfl
  ·rw [if_neg e, if_neg (by simpa using e)]
   have hb := fst_bd gc _ e
   rw [List.length_drop] at hb
   obtain ⟨f, hf⟩ : ∃ f, f = fstC (((rl l).drop q).map gc) := ⟨_, rfl⟩
   rw [<- hf] at hb ⊢
   have hp : pos l q + psm (((rl l).drop q).take f) = pos l (q + f) := by
    unfold pos
    rw [List.take_add, psm_app]
   have ih := plc_cum l n (q + f) (by omega)
   rw [<- hd, List.drop_drop, plc, List.map_cons, List.map_cons, hp, List.drop_drop, ih]
theorem flt_bool (A : Nat -> Bool) (n : Nat) : flt (fun k => A k = true) n = (List.range n).filter A := by
 unfold flt
 congr 1
 funext k
 cases h : A k <;> simp [h]
theorem gr_ends (l : List UInt8) (h : l ≠ []) : (flt (fun k => cutB true grRs (gcs l) k = true) ((gcs l).length + 1)).map (pos l) = 0 :: (gpF l 0).map (·.2) := by
 have hn : 0 < (rl l).length := by rw [rl_cons l h]; simp
 have hne : gcs l ≠ [] := fun e => by have := gcs_len l; rw [e] at this; simp at this; omega
 rw [flt_bool, gr_bounds (gcs_cl l) hne, List.map_cons, pos_0]
 congr 1
 have := plc_cum l (rl l).length 0 (Nat.zero_le _)
 rw [pos_0, List.drop_zero, List.drop_zero] at this
 unfold gpF pcl
 rw [List.drop_zero, this, gcs_len]
end Pt
end Go.Proofs.YtdpohgoikbeplaaGreatDoor
