/- The contract of bytes.Equal. -/
import Derived.Lib.BufferRead
import Derived.Laws.IdiomStrings
import Derived.Test.YtljlhlcoaajggaaReadNAll
import Derived.Test.YtljlhlcoaajggaaBytesAll
namespace Go.Proofs.Ytljlhlcoaajggaa
open Go.RowKit

def ub (l : List Nat) : List UInt8 := l.map UInt8.ofNat
theorem ub_len (l : List Nat) : (ub l).length = l.length := by simp [ub]
theorem conv_rd {w : World} {ao : Option Addr} {l : List Nat} (ac : Nat) (h : RdU w ao l) (h8 : ∀ c ∈ l, c < 256) (hn : ao = none → ac = 0) : (convert 58 9 (.slice ao l.length ac)).run Try.prog w = .ok (.string ⟨(ub l).toArray⟩) w := by
  cases ao with
  | none =>
    have : l = [] := by
      cases l with
      | nil => rfl
      | cons c l => obtain ⟨a, ha, _⟩ := h 0 c rfl; cases ha
    subst this
    rw [hn rfl]
    exact Lib.run_convert_nil_bytes w 58 9 5 0 Try.underlying58 Try.underlying5 Try.underlying9
  | some a =>
    have e := run_convert_bytes_back (P := Try.prog) w 58 9 5 a ac (ub l) Try.underlying58 Try.underlying5 Try.underlying9 (fun j hj => by
      rw [ub_len] at hj
      obtain ⟨b, hb, _, h2⟩ := h j l[j] (List.getElem?_eq_getElem hj)
      cases hb
      rw [h2]
      have hc := h8 l[j] (List.getElem_mem hj)
      have e2 : (ub l)[j]'(by rw [ub_len]; exact hj) = UInt8.ofNat l[j] := by simp [ub]
      rw [e2, UInt8.toNat_ofNat', Nat.mod_eq_of_lt hc])
    rw [ub_len] at e
    exact e
theorem ub_inj : ∀ (l m : List Nat), (∀ c ∈ l, c < 256) → (∀ c ∈ m, c < 256) → ub l = ub m → l = m
  | [], [], _, _, _ => rfl
  | [], _ :: _, _, _, h => by simp [ub] at h
  | _ :: _, [], _, _, h => by simp [ub] at h
  | x :: l, y :: m, hl, hm, h => by
    simp only [ub, List.map_cons, List.cons.injEq] at h
    have h1 := congrArg UInt8.toNat h.1
    rw [UInt8.toNat_ofNat', UInt8.toNat_ofNat', Nat.mod_eq_of_lt (hl x (by simp)), Nat.mod_eq_of_lt (hm y (by simp))] at h1
    rw [h1, ub_inj l m (fun c hc => hl c (by simp [hc])) (fun c hc => hm c (by simp [hc])) h.2]

theorem bequal_any (ao bo : Option Addr) (ac bc : Nat) (l m : List Nat) (w : World) (ha : RdU w ao l) (hb : RdU w bo m) (hl : ∀ c ∈ l, c < 256) (hm : ∀ c ∈ m, c < 256) (hna : ao = none → ac = 0) (hnb : bo = none → bc = 0) :
    Calls Try.prog 58 #[.slice ao l.length ac, .slice bo m.length bc] w fun e w' => e = .returned (.bool (decide (l = m))) ∧ w' = w := by
  have c1 := conv_rd ac ha hl hna
  have c2 := conv_rd bc hb hm hnb
  have HI := hid (ub_inj l m hl hm)
  clear ha hb hl hm hna hnb
  have HQ := hid (show decide (l = m) = (ub l == ub m) by
    by_cases h : l = m
    · rw [decide_eq_true h, h]; simp
    · rw [decide_eq_false h]; exact (beq_eq_false_iff_ne.2 (fun e => h (HI.out e))).symm)
  obtain ⟨t, ht⟩ : ∃ t, t = decide (l = m) := ⟨_, rfl⟩
  rw [← ht] at HQ ⊢
  clear ht HI
  go_enter Try.func58, Try.ntmps58
  go_wp2
  go_ret
  exact ⟨by rw [HQ.out]; rfl, rfl⟩
end Go.Proofs.Ytljlhlcoaajggaa
/- A reader in memory: its contracts with what they leave alone; what Load reads. -/
namespace Go.Proofs.Ytljlhlcoaajggaa
open Go.RowKit

/-- A reader's variable. -/
def XAt (X : Nat) (v : Value) (w : World) : Prop := w.heap[X]? = some (.cells #[v] 93 (0, 0))
/-- Only the block X has changed. -/
structure Sx (X : Nat) (w w' : World) : Prop where
  os : w'.os = w.os
  tape : w'.tape = w.tape
  output : w'.output = w.output
  size : w'.heap.size = w.heap.size
  block : ∀ k, k ≠ X → w'.heap[k]? = w.heap[k]?
theorem Sx.refl (X : Nat) (w : World) : Sx X w w := ⟨rfl, rfl, rfl, rfl, fun _ _ => rfl⟩
theorem Sx.below {X : Nat} {w0 w w' : World} (h : Sx X w w') (hb : Below X w0 w) : Below X w0 w' :=
  ⟨h.os.trans hb.os, h.tape.trans hb.tape, h.output.trans hb.output, by rw [h.size]; exact hb.size, fun k hk => (h.block k (by omega)).trans (hb.block k hk)⟩
theorem Sx.own {X B e k n : Nat} {v : Value} {xs : List Value} {w w' : World} (h : Sx X w w') (ho : w.ownsRow B e k v n xs) (hX : X < B) : w'.ownsRow B e k v n xs := by
  refine ⟨ho.1, ?_⟩
  rcases ho.2 with h' | ⟨q, cap, cur, hv, hB, hg, rest⟩
  · exact .inl h'
  · exact .inr ⟨q, cap, cur, hv, hB, (h.block q (by omega)).trans hg, rest⟩
theorem XAt.cell {X : Nat} {v : Value} {w : World} (h : XAt X v w) : w.cell? ⟨X, 0, none⟩ = some v := by rw [cell_of_row w X 0 _ 93 (0, 0) h]; rfl
theorem XAt.frozen {X : Nat} {v : Value} {w : World} (h : XAt X v w) : w.frozen? ⟨X, 0, none⟩ = false := frozen_of_row w X 0 _ 93 h
theorem XAt.set {X : Nat} {v : Value} {w : World} (h : XAt X v w) (u : Value) : XAt X u (w.setCell ⟨X, 0, none⟩ u) ∧ Sx X w (w.setCell ⟨X, 0, none⟩ u) := by
  refine ⟨?_, ?_⟩
  · have := heap_setCell_same w X 0 #[v] 93 u h
    exact this
  · have hb := (Below.refl X w).setCell (p := ⟨X, 0, none⟩) (Nat.le_refl X) u
    refine ⟨hb.os, hb.tape, hb.output, ?_, fun k hk => ?_⟩
    · exact World.size_setCell _ _ _
    · exact Below.heap_setCell w _ _ _ (by show k ≠ X; exact hk)
set_option maxRecDepth 100000 in
theorem class_far (X : Nat) (ao : Option Addr) (ac : Nat) (c : Nat) (l : List Nat) (w : World) (h : RdU w ao (c :: l)) (hc : c < 256) (hx : w.cell? ⟨X, 0, none⟩ = some (.slice ao (l.length + 1) ac)) (hf : w.frozen? ⟨X, 0, none⟩ = false) (hac : l.length + 1 ≤ ac) (hl : l.length < 1000000000) :
    Calls Try.prog 56 #[.pointer (some ⟨X, 0, none⟩)] w fun e w' => ∃ ao' ac', e = .returned (.int .i64 (c : Int)) ∧ w' = w.setCell ⟨X, 0, none⟩ (.slice ao' l.length ac') ∧ (∀ W, RdU W ao (c :: l) → RdU W ao' l) ∧ l.length ≤ ac' := by
  obtain ⟨a, rfl, ha, a0⟩ := h 0 c rfl
  have HT := hid (show ∀ W, RdU W (some a) (c :: l) → RdU W (some ⟨a.block, a.off + 1, none⟩) l from fun W hW => hW.tail)
  have e1 : IntKind.i64.wrap (c : Int) = (c : Int) := by rw [IntKind.wrap_i64]; omega
  obtain ⟨n, hn⟩ : ∃ n, n = l.length + 1 := ⟨_, rfl⟩
  rw [← hn] at hx hac
  have n0 : ¬ ((n : Int) = 0) := by omega
  have n1 : (0 : Int) < (n : Int) := by omega
  have n2 : (1 : Int) ≤ (n : Int) := by omega
  have n3 : (n : Int) ≤ (ac : Int) := by omega
  have n4 : ((n : Int) == 0) = false := by simp; omega
  have hnl : n - 1 = l.length := by omega
  have HNL := hid hnl
  have HN := hid hn
  clear hn hnl
  rw [add_nil] at a0
  clear h
  go_enter Try.func56, Try.ntmps56
  go_wp2
  · go_ret
    have hl0 : l = [] := List.length_eq_zero_iff.1 (by have h5 := HN.out; omega)
    refine ⟨rfl, some a, 0, by rw [HNL.out], ?_, by rw [hl0]; exact Nat.le_refl _⟩
    rw [hl0]
    exact fun W _ k d hk => by simp at hk
  · go_ret
    exact ⟨rfl, _, ac - 1, by rw [HNL.out], HT.out, by have h5 := HN.out; omega⟩
theorem class_x (X : Nat) (ao : Option Addr) (ac : Nat) (b : List Nat) (w : World) (hx : XAt X (.slice ao b.length ac) w) (hb : RdU w ao b) (h8 : ∀ c ∈ b, c < 256) (hac : b.length ≤ ac) (hl : b.length ≤ 1000000000) :
    Calls Try.prog 56 #[.pointer (some ⟨X, 0, none⟩)] w fun e w' => e = .returned (.int .i64 ((b.headD 0 : Nat) : Int)) ∧ ∃ ao' ac', XAt X (.slice ao' b.tail.length ac') w' ∧ (∀ W, RdU W ao b → RdU W ao' b.tail) ∧ b.tail.length ≤ ac' ∧ Sx X w w' := by
  cases b with
  | nil =>
    refine (class_nil X ao ac w hx.cell).mono ?_
    rintro e w' ⟨rfl, rfl⟩
    exact ⟨rfl, ao, ac, hx, fun W _ k d hk => by simp at hk, Nat.zero_le _, Sx.refl X _⟩
  | cons c l =>
    refine (class_far X ao ac c l w hb (h8 c (by simp)) hx.cell hx.frozen (by simpa using hac) (by simp at hl; omega)).mono ?_
    rintro e w' ⟨ao', ac', rfl, rfl, h1, h2⟩
    obtain ⟨s1, s2⟩ := hx.set (.slice ao' l.length ac')
    exact ⟨rfl, ao', ac', s1, h1, h2, s2⟩
theorem readN_x (X : Nat) (ao : Option Addr) (ac : Nat) (b : List Nat) (w : World) (hx : XAt X (.slice ao b.length ac) w) (hb : RdU w ao b) (h8 : ∀ c ∈ b, c < 256) (hac : b.length ≤ ac) (hl : b.length ≤ 1000000000) :
    Calls Try.prog 57 #[.pointer (some ⟨X, 0, none⟩)] w fun e w' => e = .returned (.int .i64 (((rdn b).1 : Nat) : Int)) ∧ ∃ ao' ac', XAt X (.slice ao' (rdn b).2.length ac') w' ∧ (∀ W, RdU W ao b → RdU W ao' (rdn b).2) ∧ (rdn b).2.length ≤ ac' ∧ Sx X w w' := by
  refine (readN_any X ao ac b w hb h8 hl hac hx.cell hx.frozen).mono ?_
  rintro e w' ⟨rfl, ao', ac', k, rfl, h1, h2⟩
  have hxk : XAt X (.slice ao b.length ac) (w.drewN k) := hx
  obtain ⟨s1, s2⟩ := hxk.set (.slice ao' (rdn b).2.length ac')
  exact ⟨rfl, ao', ac', s1, h1, h2, ⟨s2.os, s2.tape, s2.output, s2.size, s2.block⟩⟩
/-- The ranges that bytes tell, one behind the other, from nx on. -/
def ldl : Nat → Nat → List Nat → Option (List Tr)
  | 0, _, _ => some []
  | f + 1, nx, b =>
    if b = [] then some [] else
      let lo := nx + (rdn b).1
      let hi := lo + (rdn (rdn b).2).1
      let cl := (rdn (rdn b).2).2.headD 0
      if 1114111 < hi then none else (ldl f (hi + 1) (rdn (rdn b).2).2.tail).map ((lo, hi, cl) :: ·)
theorem rdn_len (b : List Nat) : (rdn b).2.length ≤ b.length ∧ (b ≠ [] → (rdn b).2.length < b.length) := by
  cases b with
  | nil => exact ⟨Nat.le_refl _, fun h => absurd rfl h⟩
  | cons c0 r0 =>
    unfold rdn
    dsimp only
    split
    · simp
    · cases r0 with
      | nil => simp
      | cons c1 r1 =>
        dsimp only
        split
        · simp; omega
        · cases r1 with
          | nil => simp
          | cons c2 r2 =>
            dsimp only
            split
            · simp; omega
            · simp
theorem rdn_lt (b : List Nat) (h8 : ∀ c ∈ b, c < 256) : (rdn b).1 < 2097152 := by
  cases b with
  | nil => decide
  | cons c0 r0 =>
    have h0 := h8 c0 (by simp)
    unfold rdn
    dsimp only
    split
    · show c0 < _; omega
    · cases r0 with
      | nil => simp
      | cons c1 r1 =>
        have h1 := h8 c1 (by simp)
        dsimp only
        split
        · show c0 % 128 + c1 * 128 < _; omega
        · cases r1 with
          | nil => simp
          | cons c2 r2 =>
            have h2 := h8 c2 (by simp)
            dsimp only
            split
            · show c0 % 128 + c1 % 128 * 128 + c2 * 16384 < _; omega
            · simp
theorem rdn_mem (b : List Nat) : ∀ c ∈ (rdn b).2, c ∈ b := by
  intro c hc
  cases b with
  | nil => simp [rdn] at hc
  | cons c0 r0 =>
    unfold rdn at hc
    dsimp only at hc
    split at hc
    · exact List.mem_cons_of_mem _ hc
    · cases r0 with
      | nil => simp at hc
      | cons c1 r1 =>
        dsimp only at hc
        split at hc
        · exact List.mem_cons_of_mem _ (List.mem_cons_of_mem _ hc)
        · cases r1 with
          | nil => simp at hc
          | cons c2 r2 =>
            dsimp only at hc
            split at hc
            · exact List.mem_cons_of_mem _ (List.mem_cons_of_mem _ (List.mem_cons_of_mem _ hc))
            · simp at hc
theorem ldl_more : ∀ (f g nx : Nat) (b : List Nat), b.length ≤ f → b.length ≤ g → ldl f nx b = ldl g nx b
  | 0, 0, _, _, _, _ => rfl
  | 0, g + 1, nx, b, h, _ => by
    have : b = [] := List.length_eq_zero_iff.1 (by omega)
    subst this; rfl
  | f + 1, 0, nx, b, _, h => by
    have : b = [] := List.length_eq_zero_iff.1 (by omega)
    subst this; rfl
  | f + 1, g + 1, nx, b, h1, h2 => by
    unfold ldl
    by_cases hb : b = []
    · rw [if_pos hb, if_pos hb]
    · rw [if_neg hb, if_neg hb]
      have a1 := (rdn_len b).2 hb
      have a2 := (rdn_len (rdn b).2).1
      have a3 : (rdn (rdn b).2).2.tail.length ≤ (rdn (rdn b).2).2.length := by rw [List.length_tail]; omega
      have ih := ldl_more f g (nx + (rdn b).1 + (rdn (rdn b).2).1 + 1) (rdn (rdn b).2).2.tail (by omega) (by omega)
      dsimp only
      rw [ih]
/-- What Load reads: the rest's class. -/
def ldr (b : List Nat) : Nat := b.headD 0
/-- .. and the ranges. -/
def ldR (b : List Nat) : Option (List Tr) := ldl (rdn b.tail).2.length 0 (rdn b.tail).2
open Classical in
/-- .. which are the table's, if it is written so. -/
noncomputable def lds (b : List Nat) : Option (List Tr) := match ldR b with
  | none => none
  | some L => if enb (ldr b) (rgs (ldr b) (clA (ldr b) L)) = b then some L else none
end Go.Proofs.Ytljlhlcoaajggaa
