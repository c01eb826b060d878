/- How a table is filled: the blocks that are full, and the open one. -/
import Derived.Test.YtljlhlcoaajggaaSteps
namespace Go.Proofs.Ytljlhlcoaajggaa
open Go.RowKit

/-- The numbers of blocks, as far as they are known. -/
def fsO (F : List (List Nat)) : List Nat := fst F ++ List.replicate (8704 - F.length) 0
theorem fst_len (F : List (List Nat)) : (fst F).length = F.length := by simp [fst]
theorem fsO_set (F : List (List Nat)) (b : List Nat) (h : F.length < 8704) : (fsO F).set F.length (ix (F ++ [b]) b) = fsO (F ++ [b]) := by
  unfold fsO
  rw [List.set_append_right _ _ (by rw [fst_len]; exact Nat.le_refl _), fst_len, Nat.sub_self, fst_snoc, List.length_append, List.append_assoc]
  obtain ⟨m, hm⟩ : ∃ m, 8704 - F.length = m + 1 := ⟨8704 - F.length - 1, by omega⟩
  have hm2 : 8704 - (F.length + [b].length) = m := by simp; omega
  rw [hm, hm2, List.replicate_succ]
  rfl
theorem wth_uq (F : List (List Nat)) (b : List Nat) : wth (uq F) b = uq (F ++ [b]) := (uq_snoc F b).symm
/-- What holds of the full blocks and the open one. -/
structure Gd (F : List (List Nat)) (p op : List Nat) : Prop where
  a : ok128 F
  b : ∀ x ∈ F, ok256 x
  c : ok256 op
  d : F.length ≤ 8704
  e : p.length < 128
  f : op.take p.length = p
  g : op.length = 128
variable {F : List (List Nat)} {p op : List Nat}
theorem uq_len : ∀ (F u : List (List Nat)), (uqF u F).length ≤ u.length + F.length
  | [], u => by simp [uqF]
  | b :: F, u => by
    show (uqF _ F).length ≤ _
    have h := uq_len F (if b ∈ u then u else u ++ [b])
    have h2 : (if b ∈ u then u else u ++ [b]).length ≤ u.length + 1 := by split <;> simp
    simp only [List.length_cons]
    omega
theorem Gd.uqs (h : Gd F p op) : (∀ a ∈ uq F, ok256 a) ∧ (uq F).Nodup ∧ (uq F).length ≤ 8704 :=
  ⟨fun a ha => h.b a ((mem_uq F a).1 ha), nodup_uq F, by have h1 := uq_len F []; have h2 := h.d; unfold uq; simp at h1; omega⟩
theorem ok_set (op : List Nat) (q c : Nat) (h : ok256 op) (hc : c < 256) : ok256 (op.set q c) := fun x hx => by
  rcases List.mem_or_eq_of_mem_set hx with h1 | h1
  · exact h x h1
  · rw [h1]; exact hc
theorem take_set (op p : List Nat) (c : Nat) (h : op.take p.length = p) (hl : p.length < op.length) : (op.set p.length c).take (p.length + 1) = p ++ [c] := by
  rw [List.take_succ_eq_append_getElem (by simpa using hl), List.getElem_set_self, List.take_set_of_le (Nat.le_refl _), h]
theorem Gd.more (h : Gd F p op) (c : Nat) (hc : c < 256) (hp : p.length + 1 < 128) : Gd F (p ++ [c]) (op.set p.length c) :=
  ⟨h.a, h.b, ok_set op _ c h.c hc, h.d, by simpa using hp, by rw [List.length_append]; exact take_set op p c h.f (by rw [h.g]; exact h.e), by simpa using h.g⟩
theorem Gd.whole (h : Gd F p op) (c : Nat) (hp : p.length + 1 = 128) : op.set p.length c = p ++ [c] := by
  have h1 := take_set op p c h.f (by rw [h.g]; exact h.e)
  rw [List.take_of_length_le (by simp [h.g]; omega)] at h1
  exact h1
theorem Gd.full (h : Gd F p op) (c : Nat) (hc : c < 256) (hF : F.length < 8704) : Gd (F ++ [op.set p.length c]) [] (op.set p.length c) := by
  have ho := ok_set op p.length c h.c hc
  refine ⟨fun x hx => ?_, fun x hx => ?_, ho, by simp; omega, by simp, by simp, by simpa using h.g⟩
  · rcases List.mem_append.1 hx with h1 | h1
    · exact h.a x h1
    · rw [List.mem_singleton.1 h1]; simpa using h.g
  · rcases List.mem_append.1 hx with h1 | h1
    · exact h.b x h1
    · rw [List.mem_singleton.1 h1]; exact ho
theorem Gd.again (h : Gd F [] op) (hF : F.length < 8704) : Gd (F ++ [op]) [] op := by
  refine ⟨fun x hx => ?_, fun x hx => ?_, h.c, by simp; omega, by simp, by simp, h.g⟩
  · rcases List.mem_append.1 hx with h1 | h1
    · exact h.a x h1
    · rw [List.mem_singleton.1 h1]; exact h.g
  · rcases List.mem_append.1 hx with h1 | h1
    · exact h.b x h1
    · rw [List.mem_singleton.1 h1]; exact h.c
theorem rep_add (i j c : Nat) : List.replicate (i + j) c = List.replicate i c ++ List.replicate j c := by simp
/-- A block of the last numbers has their class alone. -/
theorem all_one (C X b : List Nat) (j c : Nat) (h : C ++ List.replicate j c = X ++ b) (hb : b.length = 128) (hj : 128 ≤ j) : b = List.replicate 128 c := by
  obtain ⟨i, rfl⟩ : ∃ i, j = i + 128 := ⟨j - 128, by omega⟩
  rw [rep_add, ← List.append_assoc] at h
  exact (List.append_inj_right' h (by simp [hb])).symm
theorem rep_snoc (C : List Nat) (j c : Nat) : C ++ List.replicate (j + 1) c = (C ++ List.replicate j c) ++ [c] := by
  rw [List.replicate_succ', List.append_assoc]
theorem rep_more (C : List Nat) (j c : Nat) : C ++ List.replicate (j + 128) c = (C ++ List.replicate j c) ++ List.replicate 128 c := by
  rw [rep_add, List.append_assoc]
theorem uq_again (F : List (List Nat)) (b : List Nat) (h : b ∈ F) : uq (F ++ [b]) = uq F := by
  rw [uq_snoc, if_pos ((mem_uq F b).2 h)]
theorem ix_again (F : List (List Nat)) (b : List Nat) (h : b ∈ F) : ix (F ++ [b]) b = ix F b := ix_more b h
/-- The first number that has no class, as it lies in memory. -/
def nxAt (M : Nat) (w : World) : Nat := match w.cell? ⟨M, 130, none⟩ with | some (.int .i64 n) => n.toNat | _ => 0
theorem nxAt_eq {M n : Nat} {w : World} (h : w.cell? ⟨M, 130, none⟩ = some (.int .i64 (n : Int))) : nxAt M w = n := by
  unfold nxAt
  rw [h]
  exact Int.toNat_natCast n
end Go.Proofs.Ytljlhlcoaajggaa
