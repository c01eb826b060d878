/- A row of runes that reads as a text's runes. -/
import Derived.Test.YtlfegdpclappiaaDoorURunes
import Derived.Test.YtlfegdpclappiaaDoorRMath
namespace Go.Proofs.YtlfegdpclappiaaDoor
open Go.RowKit Go.Shelf

theorem mks_ru : ∀ (n p : Nat) (l : List UInt8), l.length ≤ n → (mks p l).map (·.ru) = (rl l).map fun x => (x.1 : Int)
  | n, p, l, hn => by
    by_cases h : l = []
    · subst h; rfl
    · have h1 := dec_ge l h
      have hp : 0 < l.length := List.length_pos_iff.2 h
      cases n with
      | zero => omega
      | succ n =>
        rw [mks_cons p l h, rl_cons l h, List.map_cons, List.map_cons, mks_ru n _ _ (by rw [List.length_drop]; omega)]
        rfl
theorem prs_rl (l : List UInt8) : r32 (prs l) = (rl l).map fun x => Value.int .i32 x.1 := by
  have h := mks_ru _ 0 l (Nat.le_refl _)
  unfold r32 prs
  rw [List.map_map]
  have e : (mks 0 l).map ((fun x : Int × Int => Value.int .i32 x.2) ∘ fun m : Mk => (m.pl, m.ru)) = ((mks 0 l).map (·.ru)).map (fun z => Value.int .i32 z) := by rw [List.map_map]; rfl
  rw [e, h, List.map_map]; rfl
theorem prs_len2 (l : List UInt8) : (prs l).length = (rl l).length := by
  have h := congrArg List.length (prs_rl l)
  simpa [r32] using h
/-- A slice of runes reads as a text's runes. -/
def RdQ (w : World) (ao : Option Addr) (K : List (Nat × Nat)) : Prop :=
  ∀ (k : Nat) (x : Nat × Nat), K[k]? = some x → ∃ a : Addr, ao = some a ∧ a.block < w.heap.size ∧ w.cell? (a.add k) = some (.int .i32 x.1)
theorem RdQ.below {w w' : World} {ao : Option Addr} {K : List (Nat × Nat)} (h : RdQ w ao K) (hb : Below w.heap.size w w') : RdQ w' ao K := fun k z hk => by
  obtain ⟨a, h1, h2, h3⟩ := h k z hk
  exact ⟨a, h1, Nat.lt_of_lt_of_le h2 hb.size, (hb.cell (p := a.add k) (by rw [add_blk]; exact h2)).trans h3⟩
theorem rdq_own {B n cap : Nat} {ao : Option Addr} {l : List UInt8} {w : World} (h : w.ownsRow B 21 1 (.slice ao n cap) n (r32 (prs l))) (hn : n = (rl l).length) : RdQ w ao (rl l) := by
  intro k x hk
  have hkl := (List.getElem?_eq_some_iff.1 hk).1
  rcases h.2 with ⟨h', h0⟩ | ⟨q, cap', cur, h', hb, hg, hnc, hcm, hcs, htk⟩
  · omega
  · simp only [Value.slice.injEq, true_and] at h'
    obtain ⟨rfl, rfl⟩ := h'
    refine ⟨_, rfl, (h.lt q rfl).2, ?_⟩
    rw [Addr.add_lit, Nat.zero_add, h.cellAt k (by omega), prs_rl, List.getElem?_map, hk]; rfl
theorem wown_slice {w : World} {B e sz m : Nat} {v : Value} {xs : List Value} (h : w.ownsRow B e sz v m xs) : ∃ vo vc, v = .slice vo m vc := by
  rcases h.2 with ⟨rfl, h0⟩ | ⟨q, qc, _, rfl, _⟩
  · exact ⟨none, 0, by rw [h0]⟩
  · exact ⟨_, qc, rfl⟩
end Go.Proofs.YtlfegdpclappiaaDoor
