/- What a store leaves of a maker and its table; number, whether the block is known or not. -/
import Derived.Test.YtljlhlcoaajggaaFresh
namespace Go.Proofs.Ytljlhlcoaajggaa
open Go.RowKit Go.Maps Go.WideMaps

section
variable {B M T K : Nat} {fs : List Nat} {U : List (List Nat)} {bv : Value} {rest : Nat} {op : List Nat} {nx : Nat} {w : World}
theorem MkAt.ne (h : MkAt B M T K fs U bv rest op nx w) : M ≠ T := fun e => by
  subst e
  have h1 := h.hM
  rw [h.hT] at h1
  injection h1 with h1
  injection h1 with h1 h2 h3
  exact absurd h2 (by decide)
theorem MkAt.nKM (h : MkAt B M T K fs U bv rest op nx w) : K ≠ M := fun e => by subst e; exact ne_map h.hK h.hM
theorem MkAt.nKT (h : MkAt B M T K fs U bv rest op nx w) : K ≠ T := fun e => by subst e; exact ne_map h.hK h.hT
theorem MkAt.nRM (h : MkAt B M T K fs U bv rest op nx w) : bv.ownBlock ≠ some M := row_not h.hR M _ h.hM (fun c e => by injection e with e1 e2; exact absurd e2 (by decide))
theorem MkAt.nRT (h : MkAt B M T K fs U bv rest op nx w) : bv.ownBlock ≠ some T := row_not h.hR T _ h.hT (fun c e => by injection e with e1 e2; exact absurd e2 (by decide))
theorem MkAt.drew (h : MkAt B M T K fs U bv rest op nx w) (n : Nat) : MkAt B M T K fs U bv rest op nx (w.drewN n) := ⟨h.hM, h.hT, h.hK, h.hR, h.ho, h.hf, h.bM, h.bT, h.bK⟩
theorem MkAt.drew1 (h : MkAt B M T K fs U bv rest op nx w) : MkAt B M T K fs U bv rest op nx w.drew := ⟨h.hM, h.hT, h.hK, h.hR, h.ho, h.hf, h.bM, h.bT, h.bK⟩
theorem u8n_set (l : List Nat) (p c : Nat) : (u8n l).set p (.int .u8 (c : Int)) = u8n (l.set p c) := by simp [u8n, List.map_set]
theorem u16n_set (l : List Nat) (p c : Nat) : (u16n l).set p (.int .u16 (c : Int)) = u16n (l.set p c) := by simp [u16n, List.map_set]
theorem mkc_open (op : List Nat) (p c : Nat) (hl : op.length = 128) (hp : p < 128) : (mkc T K op nx).set (2 + p) (.int .u8 (c : Int)) = mkc T K (op.set p c) nx := by
  unfold mkc
  rw [show 2 + p = p + 1 + 1 by omega, List.set_cons_succ, List.set_cons_succ, List.set_append_left _ _ (by rw [u8n_len]; omega), u8n_set]
theorem mkc_next (op : List Nat) (n : Nat) (hl : op.length = 128) : (mkc T K op nx).set 130 (.int .i64 (n : Int)) = mkc T K op n := by
  unfold mkc
  rw [List.set_cons_succ, List.set_cons_succ, List.set_append_right _ _ (by rw [u8n_len]; omega), u8n_len, hl]
  rfl
theorem tbc_first (fs : List Nat) (b k : Nat) (hb : b < fs.length) : (tbc fs bv rest).set b (.int .u16 (k : Int)) = tbc (fs.set b k) bv rest := by
  unfold tbc
  rw [List.set_append_left _ _ (by rw [u16n_len]; exact hb), u16n_set]
theorem MkAt.setOpen (h : MkAt B M T K fs U bv rest op nx w) (p c : Nat) (hp : p < 128) : MkAt B M T K fs U bv rest (op.set p c) nx (w.setCell ⟨M, 2 + p, none⟩ (.int .u8 (c : Int))) :=
  ⟨by rw [set_row w M (2 + p) _ 103 _ h.hM, mkc_open op p c h.ho hp], (Below.heap_setCell w ⟨M, 2 + p, none⟩ _ T (Ne.symm h.ne)).trans h.hT, h.hK.setCell (a := ⟨M, 2 + p, none⟩) h.nKM _, ownsRow_setCell_other h.hR (a := ⟨M, 2 + p, none⟩) h.nRM _, by simp [h.ho], h.hf, h.bM, h.bT, h.bK⟩
theorem MkAt.setNext (h : MkAt B M T K fs U bv rest op nx w) (n : Nat) : MkAt B M T K fs U bv rest op n (w.setCell ⟨M, 130, none⟩ (.int .i64 (n : Int))) :=
  ⟨by rw [set_row w M 130 _ 103 _ h.hM, mkc_next op n h.ho], (Below.heap_setCell w ⟨M, 130, none⟩ _ T (Ne.symm h.ne)).trans h.hT, h.hK.setCell (a := ⟨M, 130, none⟩) h.nKM _, ownsRow_setCell_other h.hR (a := ⟨M, 130, none⟩) h.nRM _, h.ho, h.hf, h.bM, h.bT, h.bK⟩
theorem MkAt.setFirst (h : MkAt B M T K fs U bv rest op nx w) (b k : Nat) (hb : b < 8704) : MkAt B M T K (fs.set b k) U bv rest op nx (w.setCell ⟨T, b, none⟩ (.int .u16 (k : Int))) :=
  ⟨(Below.heap_setCell w ⟨T, b, none⟩ _ M h.ne).trans h.hM, by rw [set_row w T b _ 79 _ h.hT, tbc_first fs b k (by rw [h.hf]; exact hb)], h.hK.setCell (a := ⟨T, b, none⟩) h.nKT _, ownsRow_setCell_other h.hR (a := ⟨T, b, none⟩) h.nRT _, h.ho, by simp [h.hf], h.bM, h.bT, h.bK⟩
theorem u8n_get (l : List Nat) (p : Nat) (hp : p < l.length) : (u8n l)[p]? = some (.int .u8 ((l[p] : Nat) : Int)) := by
  unfold u8n
  rw [List.getElem?_map, List.getElem?_eq_getElem hp]
  rfl
theorem u16n_get (l : List Nat) (p : Nat) (hp : p < l.length) : (u16n l)[p]? = some (.int .u16 ((l[p] : Nat) : Int)) := by
  unfold u16n
  rw [List.getElem?_map, List.getElem?_eq_getElem hp]
  rfl
theorem MkAt.op_cell (h : MkAt B M T K fs U bv rest op nx w) (p : Nat) (hp : p < 128) : ∃ v, w.cell? ⟨M, 2 + p, none⟩ = some (.int .u8 v) :=
  ⟨_, h.rg p _ (u8n_get op p (by rw [h.ho]; exact hp))⟩
theorem MkAt.fs_cell (h : MkAt B M T K fs U bv rest op nx w) (b : Nat) (hb : b < 8704) : ∃ v, w.cell? ⟨T, b, none⟩ = some (.int .u16 v) := by
  have hl : b < fs.length := by rw [h.hf]; exact hb
  refine ⟨_, cell_row w T b _ 79 (.int .u16 ((fs[b] : Nat) : Int)) h.hT ?_⟩
  unfold tbc
  rw [List.getElem?_append_left (by rw [u16n_len]; exact hl), u16n_get fs b hl]
end
/-- The unlike blocks, with one more. -/
def wth (U : List (List Nat)) (b : List Nat) : List (List Nat) := if b ∈ U then U else U ++ [b]
theorem number_any (B M T K : Nat) (fs : List Nat) (U : List (List Nat)) (bv : Value) (rest : Nat) (op : List Nat) (nx : Nat) (w : World) (h : MkAt B M T K fs U bv rest op nx w) (hB : B ≤ w.heap.size) (h8 : ok256 op) (hU : ∀ a ∈ U, ok256 a) (hn : U.Nodup) (hUl : U.length ≤ 8704) :
    Calls Try.prog 75 #[.pointer (some ⟨M, 0, none⟩)] w fun e w' => ∃ bv', e = .returned (.int .u16 ((wth U op).idxOf op : Int)) ∧ MkAt B M T K fs (wth U op) bv' rest op nx w' ∧ Below B w w' ∧ Far M T K bv bv' w w' := by
  by_cases hm : op ∈ U
  · have e : wth U op = U := if_pos hm
    rw [e]
    refine (number_known B M T K fs U bv rest op nx w h h8 hU hn hm).mono ?_
    rintro x w' ⟨rfl, n, rfl⟩
    exact ⟨bv, rfl, h.drew n, ⟨rfl, rfl, rfl, Nat.le_refl _, fun _ _ => rfl⟩, (Far.refl M T K bv w).drewN n⟩
  · have e : wth U op = U ++ [op] := if_neg hm
    have e2 : (U ++ [op]).idxOf op = U.length := by rw [List.idxOf_append, if_neg hm]; simp
    rw [e, e2]
    exact number_new B M T K fs U bv rest op nx w h hB h8 hU hn hm hUl
end Go.Proofs.Ytljlhlcoaajggaa
/- How a table is filled: the blocks that are full, and the open one. -/
namespace Go.Proofs.Ytljlhlcoaajggaa
open Go.RowKit

/-- The numbers of blocks, as far as they are known. -/
def fsO (F : List (List Nat)) : List Nat := fst F ++ List.replicate (8704 - F.length) 0
theorem fst_len (F : List (List Nat)) : (fst F).length = F.length := by simp [fst]
theorem fsO_set (F : List (List Nat)) (b : List Nat) (h : F.length < 8704) : (fsO F).set F.length (ix (F ++ [b]) b) = fsO (F ++ [b]) := by
  unfold fsO
  rw [List.set_append_right _ _ (by rw [fst_len]; exact Nat.le_refl _), fst_len, Nat.sub_self, fst_snoc, List.length_append, List.append_assoc]
  obtain ⟨m, hm⟩ : ∃ m, 8704 - F.length = m + 1 := ⟨8704 - F.length - 1, by omega⟩
  have hm2 : 8704 - (F.length + [b].length) = m := by simp; omega
  rw [hm, hm2, List.replicate_succ]
  rfl
theorem wth_uq (F : List (List Nat)) (b : List Nat) : wth (uq F) b = uq (F ++ [b]) := (uq_snoc F b).symm
/-- What holds of the full blocks and the open one. -/
structure Gd (F : List (List Nat)) (p op : List Nat) : Prop where
  a : ok128 F
  b : ∀ x ∈ F, ok256 x
  c : ok256 op
  d : F.length ≤ 8704
  e : p.length < 128
  f : op.take p.length = p
  g : op.length = 128
variable {F : List (List Nat)} {p op : List Nat}
theorem uq_len : ∀ (F u : List (List Nat)), (uqF u F).length ≤ u.length + F.length
  | [], u => by simp [uqF]
  | b :: F, u => by
    show (uqF _ F).length ≤ _
    have h := uq_len F (if b ∈ u then u else u ++ [b])
    have h2 : (if b ∈ u then u else u ++ [b]).length ≤ u.length + 1 := by split <;> simp
    simp only [List.length_cons]
    omega
theorem Gd.uqs (h : Gd F p op) : (∀ a ∈ uq F, ok256 a) ∧ (uq F).Nodup ∧ (uq F).length ≤ 8704 :=
  ⟨fun a ha => h.b a ((mem_uq F a).1 ha), nodup_uq F, by have h1 := uq_len F []; have h2 := h.d; unfold uq; simp at h1; omega⟩
theorem ok_set (op : List Nat) (q c : Nat) (h : ok256 op) (hc : c < 256) : ok256 (op.set q c) := fun x hx => by
  rcases List.mem_or_eq_of_mem_set hx with h1 | h1
  · exact h x h1
  · rw [h1]; exact hc
theorem take_set (op p : List Nat) (c : Nat) (h : op.take p.length = p) (hl : p.length < op.length) : (op.set p.length c).take (p.length + 1) = p ++ [c] := by
  rw [List.take_succ_eq_append_getElem (by simpa using hl), List.getElem_set_self, List.take_set_of_le (Nat.le_refl _), h]
theorem Gd.more (h : Gd F p op) (c : Nat) (hc : c < 256) (hp : p.length + 1 < 128) : Gd F (p ++ [c]) (op.set p.length c) :=
  ⟨h.a, h.b, ok_set op _ c h.c hc, h.d, by simpa using hp, by rw [List.length_append]; exact take_set op p c h.f (by rw [h.g]; exact h.e), by simpa using h.g⟩
theorem Gd.whole (h : Gd F p op) (c : Nat) (hp : p.length + 1 = 128) : op.set p.length c = p ++ [c] := by
  have h1 := take_set op p c h.f (by rw [h.g]; exact h.e)
  rw [List.take_of_length_le (by simp [h.g]; omega)] at h1
  exact h1
theorem Gd.full (h : Gd F p op) (c : Nat) (hc : c < 256) (hF : F.length < 8704) : Gd (F ++ [op.set p.length c]) [] (op.set p.length c) := by
  have ho := ok_set op p.length c h.c hc
  refine ⟨fun x hx => ?_, fun x hx => ?_, ho, by simp; omega, by simp, by simp, by simpa using h.g⟩
  · rcases List.mem_append.1 hx with h1 | h1
    · exact h.a x h1
    · rw [List.mem_singleton.1 h1]; simpa using h.g
  · rcases List.mem_append.1 hx with h1 | h1
    · exact h.b x h1
    · rw [List.mem_singleton.1 h1]; exact ho
theorem Gd.again (h : Gd F [] op) (hF : F.length < 8704) : Gd (F ++ [op]) [] op := by
  refine ⟨fun x hx => ?_, fun x hx => ?_, h.c, by simp; omega, by simp, by simp, h.g⟩
  · rcases List.mem_append.1 hx with h1 | h1
    · exact h.a x h1
    · rw [List.mem_singleton.1 h1]; exact h.g
  · rcases List.mem_append.1 hx with h1 | h1
    · exact h.b x h1
    · rw [List.mem_singleton.1 h1]; exact h.c
theorem rep_add (i j c : Nat) : List.replicate (i + j) c = List.replicate i c ++ List.replicate j c := by simp
/-- A block of the last numbers has their class alone. -/
theorem all_one (C X b : List Nat) (j c : Nat) (h : C ++ List.replicate j c = X ++ b) (hb : b.length = 128) (hj : 128 ≤ j) : b = List.replicate 128 c := by
  obtain ⟨i, rfl⟩ : ∃ i, j = i + 128 := ⟨j - 128, by omega⟩
  rw [rep_add, ← List.append_assoc] at h
  exact (List.append_inj_right' h (by simp [hb])).symm
theorem rep_snoc (C : List Nat) (j c : Nat) : C ++ List.replicate (j + 1) c = (C ++ List.replicate j c) ++ [c] := by
  rw [List.replicate_succ', List.append_assoc]
theorem rep_more (C : List Nat) (j c : Nat) : C ++ List.replicate (j + 128) c = (C ++ List.replicate j c) ++ List.replicate 128 c := by
  rw [rep_add, List.append_assoc]
theorem uq_again (F : List (List Nat)) (b : List Nat) (h : b ∈ F) : uq (F ++ [b]) = uq F := by
  rw [uq_snoc, if_pos ((mem_uq F b).2 h)]
theorem ix_again (F : List (List Nat)) (b : List Nat) (h : b ∈ F) : ix (F ++ [b]) b = ix F b := ix_more b h
/-- The first number that has no class, as it lies in memory. -/
def nxAt (M : Nat) (w : World) : Nat := match w.cell? ⟨M, 130, none⟩ with | some (.int .i64 n) => n.toNat | _ => 0
theorem nxAt_eq {M n : Nat} {w : World} (h : w.cell? ⟨M, 130, none⟩ = some (.int .i64 (n : Int))) : nxAt M w = n := by
  unfold nxAt
  rw [h]
  exact Int.toNat_natCast n
end Go.Proofs.Ytljlhlcoaajggaa
