/- A reader in memory: its contracts with what they leave alone; what Load reads. -/
import Derived.Test.YtljlhlcoaajggaaReadN
import Derived.Test.YtljlhlcoaajggaaBytes
import Derived.Test.YtljlhlcoaajggaaBytesEq
namespace Go.Proofs.Ytljlhlcoaajggaa
open Go.RowKit

/-- A reader's variable. -/
def XAt (X : Nat) (v : Value) (w : World) : Prop := w.heap[X]? = some (.cells #[v] 93 (0, 0))
/-- Only the block X has changed. -/
structure Sx (X : Nat) (w w' : World) : Prop where
  os : w'.os = w.os
  tape : w'.tape = w.tape
  output : w'.output = w.output
  size : w'.heap.size = w.heap.size
  block : ∀ k, k ≠ X → w'.heap[k]? = w.heap[k]?
theorem Sx.refl (X : Nat) (w : World) : Sx X w w := ⟨rfl, rfl, rfl, rfl, fun _ _ => rfl⟩
theorem Sx.below {X : Nat} {w0 w w' : World} (h : Sx X w w') (hb : Below X w0 w) : Below X w0 w' :=
  ⟨h.os.trans hb.os, h.tape.trans hb.tape, h.output.trans hb.output, by rw [h.size]; exact hb.size, fun k hk => (h.block k (by omega)).trans (hb.block k hk)⟩
theorem Sx.own {X B e k n : Nat} {v : Value} {xs : List Value} {w w' : World} (h : Sx X w w') (ho : w.ownsRow B e k v n xs) (hX : X < B) : w'.ownsRow B e k v n xs := by
  refine ⟨ho.1, ?_⟩
  rcases ho.2 with h' | ⟨q, cap, cur, hv, hB, hg, rest⟩
  · exact .inl h'
  · exact .inr ⟨q, cap, cur, hv, hB, (h.block q (by omega)).trans hg, rest⟩
theorem XAt.cell {X : Nat} {v : Value} {w : World} (h : XAt X v w) : w.cell? ⟨X, 0, none⟩ = some v := by rw [cell_of_row w X 0 _ 93 (0, 0) h]; rfl
theorem XAt.frozen {X : Nat} {v : Value} {w : World} (h : XAt X v w) : w.frozen? ⟨X, 0, none⟩ = false := frozen_of_row w X 0 _ 93 h
theorem XAt.set {X : Nat} {v : Value} {w : World} (h : XAt X v w) (u : Value) : XAt X u (w.setCell ⟨X, 0, none⟩ u) ∧ Sx X w (w.setCell ⟨X, 0, none⟩ u) := by
  refine ⟨?_, ?_⟩
  · have := heap_setCell_same w X 0 #[v] 93 u h
    exact this
  · have hb := (Below.refl X w).setCell (p := ⟨X, 0, none⟩) (Nat.le_refl X) u
    refine ⟨hb.os, hb.tape, hb.output, ?_, fun k hk => ?_⟩
    · exact World.size_setCell _ _ _
    · exact Below.heap_setCell w _ _ _ (by show k ≠ X; exact hk)
set_option maxRecDepth 100000 in
theorem class_far (X : Nat) (ao : Option Addr) (ac : Nat) (c : Nat) (l : List Nat) (w : World) (h : RdU w ao (c :: l)) (hc : c < 256) (hx : w.cell? ⟨X, 0, none⟩ = some (.slice ao (l.length + 1) ac)) (hf : w.frozen? ⟨X, 0, none⟩ = false) (hac : l.length + 1 ≤ ac) (hl : l.length < 1000000000) :
    Calls Try.prog 56 #[.pointer (some ⟨X, 0, none⟩)] w fun e w' => ∃ ao' ac', e = .returned (.int .i64 (c : Int)) ∧ w' = w.setCell ⟨X, 0, none⟩ (.slice ao' l.length ac') ∧ (∀ W, RdU W ao (c :: l) → RdU W ao' l) ∧ l.length ≤ ac' := by
  obtain ⟨a, rfl, ha, a0⟩ := h 0 c rfl
  have HT := hid (show ∀ W, RdU W (some a) (c :: l) → RdU W (some ⟨a.block, a.off + 1, none⟩) l from fun W hW => hW.tail)
  have e1 : IntKind.i64.wrap (c : Int) = (c : Int) := by rw [IntKind.wrap_i64]; omega
  obtain ⟨n, hn⟩ : ∃ n, n = l.length + 1 := ⟨_, rfl⟩
  rw [← hn] at hx hac
  have n0 : ¬ ((n : Int) = 0) := by omega
  have n1 : (0 : Int) < (n : Int) := by omega
  have n2 : (1 : Int) ≤ (n : Int) := by omega
  have n3 : (n : Int) ≤ (ac : Int) := by omega
  have n4 : ((n : Int) == 0) = false := by simp; omega
  have hnl : n - 1 = l.length := by omega
  have HNL := hid hnl
  have HN := hid hn
  clear hn hnl
  rw [add_nil] at a0
  clear h
  go_enter Try.func56, Try.ntmps56
  go_wp2
  · go_ret
    have hl0 : l = [] := List.length_eq_zero_iff.1 (by have h5 := HN.out; omega)
    refine ⟨rfl, some a, 0, by rw [HNL.out], ?_, by rw [hl0]; exact Nat.le_refl _⟩
    rw [hl0]
    exact fun W _ k d hk => by simp at hk
  · go_ret
    exact ⟨rfl, _, ac - 1, by rw [HNL.out], HT.out, by have h5 := HN.out; omega⟩
theorem class_x (X : Nat) (ao : Option Addr) (ac : Nat) (b : List Nat) (w : World) (hx : XAt X (.slice ao b.length ac) w) (hb : RdU w ao b) (h8 : ∀ c ∈ b, c < 256) (hac : b.length ≤ ac) (hl : b.length ≤ 1000000000) :
    Calls Try.prog 56 #[.pointer (some ⟨X, 0, none⟩)] w fun e w' => e = .returned (.int .i64 ((b.headD 0 : Nat) : Int)) ∧ ∃ ao' ac', XAt X (.slice ao' b.tail.length ac') w' ∧ (∀ W, RdU W ao b → RdU W ao' b.tail) ∧ b.tail.length ≤ ac' ∧ Sx X w w' := by
  cases b with
  | nil =>
    refine (class_nil X ao ac w hx.cell).mono ?_
    rintro e w' ⟨rfl, rfl⟩
    exact ⟨rfl, ao, ac, hx, fun W _ k d hk => by simp at hk, Nat.zero_le _, Sx.refl X _⟩
  | cons c l =>
    refine (class_far X ao ac c l w hb (h8 c (by simp)) hx.cell hx.frozen (by simpa using hac) (by simp at hl; omega)).mono ?_
    rintro e w' ⟨ao', ac', rfl, rfl, h1, h2⟩
    obtain ⟨s1, s2⟩ := hx.set (.slice ao' l.length ac')
    exact ⟨rfl, ao', ac', s1, h1, h2, s2⟩
theorem readN_x (X : Nat) (ao : Option Addr) (ac : Nat) (b : List Nat) (w : World) (hx : XAt X (.slice ao b.length ac) w) (hb : RdU w ao b) (h8 : ∀ c ∈ b, c < 256) (hac : b.length ≤ ac) (hl : b.length ≤ 1000000000) :
    Calls Try.prog 57 #[.pointer (some ⟨X, 0, none⟩)] w fun e w' => e = .returned (.int .i64 (((rdn b).1 : Nat) : Int)) ∧ ∃ ao' ac', XAt X (.slice ao' (rdn b).2.length ac') w' ∧ (∀ W, RdU W ao b → RdU W ao' (rdn b).2) ∧ (rdn b).2.length ≤ ac' ∧ Sx X w w' := by
  refine (readN_any X ao ac b w hb h8 hl hac hx.cell hx.frozen).mono ?_
  rintro e w' ⟨rfl, ao', ac', k, rfl, h1, h2⟩
  have hxk : XAt X (.slice ao b.length ac) (w.drewN k) := hx
  obtain ⟨s1, s2⟩ := hxk.set (.slice ao' (rdn b).2.length ac')
  exact ⟨rfl, ao', ac', s1, h1, h2, ⟨s2.os, s2.tape, s2.output, s2.size, s2.block⟩⟩
/-- The ranges that bytes tell, one behind the other, from nx on. -/
def ldl : Nat → Nat → List Nat → Option (List Tr)
  | 0, _, _ => some []
  | f + 1, nx, b =>
    if b = [] then some [] else
      let lo := nx + (rdn b).1
      let hi := lo + (rdn (rdn b).2).1
      let cl := (rdn (rdn b).2).2.headD 0
      if 1114111 < hi then none else (ldl f (hi + 1) (rdn (rdn b).2).2.tail).map ((lo, hi, cl) :: ·)
theorem rdn_len (b : List Nat) : (rdn b).2.length ≤ b.length ∧ (b ≠ [] → (rdn b).2.length < b.length) := by
  cases b with
  | nil => exact ⟨Nat.le_refl _, fun h => absurd rfl h⟩
  | cons c0 r0 =>
    unfold rdn
    dsimp only
    split
    · simp
    · cases r0 with
      | nil => simp
      | cons c1 r1 =>
        dsimp only
        split
        · simp; omega
        · cases r1 with
          | nil => simp
          | cons c2 r2 =>
            dsimp only
            split
            · simp; omega
            · simp
theorem rdn_lt (b : List Nat) (h8 : ∀ c ∈ b, c < 256) : (rdn b).1 < 2097152 := by
  cases b with
  | nil => decide
  | cons c0 r0 =>
    have h0 := h8 c0 (by simp)
    unfold rdn
    dsimp only
    split
    · show c0 < _; omega
    · cases r0 with
      | nil => simp
      | cons c1 r1 =>
        have h1 := h8 c1 (by simp)
        dsimp only
        split
        · show c0 % 128 + c1 * 128 < _; omega
        · cases r1 with
          | nil => simp
          | cons c2 r2 =>
            have h2 := h8 c2 (by simp)
            dsimp only
            split
            · show c0 % 128 + c1 % 128 * 128 + c2 * 16384 < _; omega
            · simp
theorem rdn_mem (b : List Nat) : ∀ c ∈ (rdn b).2, c ∈ b := by
  intro c hc
  cases b with
  | nil => simp [rdn] at hc
  | cons c0 r0 =>
    unfold rdn at hc
    dsimp only at hc
    split at hc
    · exact List.mem_cons_of_mem _ hc
    · cases r0 with
      | nil => simp at hc
      | cons c1 r1 =>
        dsimp only at hc
        split at hc
        · exact List.mem_cons_of_mem _ (List.mem_cons_of_mem _ hc)
        · cases r1 with
          | nil => simp at hc
          | cons c2 r2 =>
            dsimp only at hc
            split at hc
            · exact List.mem_cons_of_mem _ (List.mem_cons_of_mem _ (List.mem_cons_of_mem _ hc))
            · simp at hc
theorem ldl_more : ∀ (f g nx : Nat) (b : List Nat), b.length ≤ f → b.length ≤ g → ldl f nx b = ldl g nx b
  | 0, 0, _, _, _, _ => rfl
  | 0, g + 1, nx, b, h, _ => by
    have : b = [] := List.length_eq_zero_iff.1 (by omega)
    subst this; rfl
  | f + 1, 0, nx, b, _, h => by
    have : b = [] := List.length_eq_zero_iff.1 (by omega)
    subst this; rfl
  | f + 1, g + 1, nx, b, h1, h2 => by
    unfold ldl
    by_cases hb : b = []
    · rw [if_pos hb, if_pos hb]
    · rw [if_neg hb, if_neg hb]
      have a1 := (rdn_len b).2 hb
      have a2 := (rdn_len (rdn b).2).1
      have a3 : (rdn (rdn b).2).2.tail.length ≤ (rdn (rdn b).2).2.length := by rw [List.length_tail]; omega
      have ih := ldl_more f g (nx + (rdn b).1 + (rdn (rdn b).2).1 + 1) (rdn (rdn b).2).2.tail (by omega) (by omega)
      dsimp only
      rw [ih]
/-- What Load reads: the rest's class. -/
def ldr (b : List Nat) : Nat := b.headD 0
/-- .. and the ranges. -/
def ldR (b : List Nat) : Option (List Tr) := ldl (rdn b.tail).2.length 0 (rdn b.tail).2
open Classical in
/-- .. which are the table's, if it is written so. -/
noncomputable def lds (b : List Nat) : Option (List Tr) := match ldR b with
  | none => none
  | some L => if enb (ldr b) (rgs (ldr b) (clA (ldr b) L)) = b then some L else none
end Go.Proofs.Ytljlhlcoaajggaa
