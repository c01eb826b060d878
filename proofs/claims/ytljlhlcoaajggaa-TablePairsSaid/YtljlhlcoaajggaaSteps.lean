/- What a store leaves of a maker and its table; number, whether the block is known or not. -/
import Derived.Test.YtljlhlcoaajggaaFresh
namespace Go.Proofs.Ytljlhlcoaajggaa
open Go.RowKit Go.Maps Go.WideMaps

section
variable {B M T K : Nat} {fs : List Nat} {U : List (List Nat)} {bv : Value} {rest : Nat} {op : List Nat} {nx : Nat} {w : World}
theorem MkAt.ne (h : MkAt B M T K fs U bv rest op nx w) : M ≠ T := fun e => by
  subst e
  have h1 := h.hM
  rw [h.hT] at h1
  injection h1 with h1
  injection h1 with h1 h2 h3
  exact absurd h2 (by decide)
theorem MkAt.nKM (h : MkAt B M T K fs U bv rest op nx w) : K ≠ M := fun e => by subst e; exact ne_map h.hK h.hM
theorem MkAt.nKT (h : MkAt B M T K fs U bv rest op nx w) : K ≠ T := fun e => by subst e; exact ne_map h.hK h.hT
theorem MkAt.nRM (h : MkAt B M T K fs U bv rest op nx w) : bv.ownBlock ≠ some M := row_not h.hR M _ h.hM (fun c e => by injection e with e1 e2; exact absurd e2 (by decide))
theorem MkAt.nRT (h : MkAt B M T K fs U bv rest op nx w) : bv.ownBlock ≠ some T := row_not h.hR T _ h.hT (fun c e => by injection e with e1 e2; exact absurd e2 (by decide))
theorem MkAt.drew (h : MkAt B M T K fs U bv rest op nx w) (n : Nat) : MkAt B M T K fs U bv rest op nx (w.drewN n) := ⟨h.hM, h.hT, h.hK, h.hR, h.ho, h.hf, h.bM, h.bT, h.bK⟩
theorem MkAt.drew1 (h : MkAt B M T K fs U bv rest op nx w) : MkAt B M T K fs U bv rest op nx w.drew := ⟨h.hM, h.hT, h.hK, h.hR, h.ho, h.hf, h.bM, h.bT, h.bK⟩
theorem u8n_set (l : List Nat) (p c : Nat) : (u8n l).set p (.int .u8 (c : Int)) = u8n (l.set p c) := by simp [u8n, List.map_set]
theorem u16n_set (l : List Nat) (p c : Nat) : (u16n l).set p (.int .u16 (c : Int)) = u16n (l.set p c) := by simp [u16n, List.map_set]
theorem mkc_open (op : List Nat) (p c : Nat) (hl : op.length = 128) (hp : p < 128) : (mkc T K op nx).set (2 + p) (.int .u8 (c : Int)) = mkc T K (op.set p c) nx := by
  unfold mkc
  rw [show 2 + p = p + 1 + 1 by omega, List.set_cons_succ, List.set_cons_succ, List.set_append_left _ _ (by rw [u8n_len]; omega), u8n_set]
theorem mkc_next (op : List Nat) (n : Nat) (hl : op.length = 128) : (mkc T K op nx).set 130 (.int .i64 (n : Int)) = mkc T K op n := by
  unfold mkc
  rw [List.set_cons_succ, List.set_cons_succ, List.set_append_right _ _ (by rw [u8n_len]; omega), u8n_len, hl]
  rfl
theorem tbc_first (fs : List Nat) (b k : Nat) (hb : b < fs.length) : (tbc fs bv rest).set b (.int .u16 (k : Int)) = tbc (fs.set b k) bv rest := by
  unfold tbc
  rw [List.set_append_left _ _ (by rw [u16n_len]; exact hb), u16n_set]
theorem MkAt.setOpen (h : MkAt B M T K fs U bv rest op nx w) (p c : Nat) (hp : p < 128) : MkAt B M T K fs U bv rest (op.set p c) nx (w.setCell ⟨M, 2 + p, none⟩ (.int .u8 (c : Int))) :=
  ⟨by rw [set_row w M (2 + p) _ 103 _ h.hM, mkc_open op p c h.ho hp], (Below.heap_setCell w ⟨M, 2 + p, none⟩ _ T (Ne.symm h.ne)).trans h.hT, h.hK.setCell (a := ⟨M, 2 + p, none⟩) h.nKM _, ownsRow_setCell_other h.hR (a := ⟨M, 2 + p, none⟩) h.nRM _, by simp [h.ho], h.hf, h.bM, h.bT, h.bK⟩
theorem MkAt.setNext (h : MkAt B M T K fs U bv rest op nx w) (n : Nat) : MkAt B M T K fs U bv rest op n (w.setCell ⟨M, 130, none⟩ (.int .i64 (n : Int))) :=
  ⟨by rw [set_row w M 130 _ 103 _ h.hM, mkc_next op n h.ho], (Below.heap_setCell w ⟨M, 130, none⟩ _ T (Ne.symm h.ne)).trans h.hT, h.hK.setCell (a := ⟨M, 130, none⟩) h.nKM _, ownsRow_setCell_other h.hR (a := ⟨M, 130, none⟩) h.nRM _, h.ho, h.hf, h.bM, h.bT, h.bK⟩
theorem MkAt.setFirst (h : MkAt B M T K fs U bv rest op nx w) (b k : Nat) (hb : b < 8704) : MkAt B M T K (fs.set b k) U bv rest op nx (w.setCell ⟨T, b, none⟩ (.int .u16 (k : Int))) :=
  ⟨(Below.heap_setCell w ⟨T, b, none⟩ _ M h.ne).trans h.hM, by rw [set_row w T b _ 79 _ h.hT, tbc_first fs b k (by rw [h.hf]; exact hb)], h.hK.setCell (a := ⟨T, b, none⟩) h.nKT _, ownsRow_setCell_other h.hR (a := ⟨T, b, none⟩) h.nRT _, h.ho, by simp [h.hf], h.bM, h.bT, h.bK⟩
theorem u8n_get (l : List Nat) (p : Nat) (hp : p < l.length) : (u8n l)[p]? = some (.int .u8 ((l[p] : Nat) : Int)) := by
  unfold u8n
  rw [List.getElem?_map, List.getElem?_eq_getElem hp]
  rfl
theorem u16n_get (l : List Nat) (p : Nat) (hp : p < l.length) : (u16n l)[p]? = some (.int .u16 ((l[p] : Nat) : Int)) := by
  unfold u16n
  rw [List.getElem?_map, List.getElem?_eq_getElem hp]
  rfl
theorem MkAt.op_cell (h : MkAt B M T K fs U bv rest op nx w) (p : Nat) (hp : p < 128) : ∃ v, w.cell? ⟨M, 2 + p, none⟩ = some (.int .u8 v) :=
  ⟨_, h.rg p _ (u8n_get op p (by rw [h.ho]; exact hp))⟩
theorem MkAt.fs_cell (h : MkAt B M T K fs U bv rest op nx w) (b : Nat) (hb : b < 8704) : ∃ v, w.cell? ⟨T, b, none⟩ = some (.int .u16 v) := by
  have hl : b < fs.length := by rw [h.hf]; exact hb
  refine ⟨_, cell_row w T b _ 79 (.int .u16 ((fs[b] : Nat) : Int)) h.hT ?_⟩
  unfold tbc
  rw [List.getElem?_append_left (by rw [u16n_len]; exact hl), u16n_get fs b hl]
end
/-- The unlike blocks, with one more. -/
def wth (U : List (List Nat)) (b : List Nat) : List (List Nat) := if b ∈ U then U else U ++ [b]
theorem number_any (B M T K : Nat) (fs : List Nat) (U : List (List Nat)) (bv : Value) (rest : Nat) (op : List Nat) (nx : Nat) (w : World) (h : MkAt B M T K fs U bv rest op nx w) (hB : B ≤ w.heap.size) (h8 : ok256 op) (hU : ∀ a ∈ U, ok256 a) (hn : U.Nodup) (hUl : U.length ≤ 8704) :
    Calls Try.prog 75 #[.pointer (some ⟨M, 0, none⟩)] w fun e w' => ∃ bv', e = .returned (.int .u16 ((wth U op).idxOf op : Int)) ∧ MkAt B M T K fs (wth U op) bv' rest op nx w' ∧ Below B w w' ∧ Far M T K bv bv' w w' := by
  by_cases hm : op ∈ U
  · have e : wth U op = U := if_pos hm
    rw [e]
    refine (number_known B M T K fs U bv rest op nx w h h8 hU hn hm).mono ?_
    rintro x w' ⟨rfl, n, rfl⟩
    exact ⟨bv, rfl, h.drew n, ⟨rfl, rfl, rfl, Nat.le_refl _, fun _ _ => rfl⟩, (Far.refl M T K bv w).drewN n⟩
  · have e : wth U op = U ++ [op] := if_neg hm
    have e2 : (U ++ [op]).idxOf op = U.length := by rw [List.idxOf_append, if_neg hm]; simp
    rw [e, e2]
    exact number_new B M T K fs U bv rest op nx w h hB h8 hU hn hm hUl
end Go.Proofs.Ytljlhlcoaajggaa
