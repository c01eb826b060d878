/- Bytes that are read: the mathematics, and the reader in memory. -/
import Derived.Test.YtkmcbhdjecpmjaaDoorPutM
import Derived.Laws.BitsAllLaws
namespace Go.Proofs.YtkmcbhdjecpmjaaDoor
open Go.RowKit

/-- A slice of bytes, nil or not, reads as a list. -/
def RdU (w : World) (ao : Option Addr) (l : List Nat) : Prop :=
  ∀ (k : Nat) (c : Nat), l[k]? = some c → ∃ a : Addr, ao = some a ∧ a.block < w.heap.size ∧ w.cell? (a.add k) = some (.int .u8 (c : Int))
theorem RdU.below {w w' : World} {ao : Option Addr} {l : List Nat} (h : RdU w ao l) (hb : Below w.heap.size w w') : RdU w' ao l := fun k z hk => by
  obtain ⟨a, h1, h2, h3⟩ := h k z hk
  exact ⟨a, h1, Nat.lt_of_lt_of_le h2 hb.size, (hb.cell (p := a.add k) (by rw [add_blk]; exact h2)).trans h3⟩
theorem add_more (a : Addr) (k : Nat) : a.add (k + 1) = (⟨a.block, a.off + 1, none⟩ : Addr).add k := by
  unfold Addr.add
  split <;> split <;> simp_all <;> omega
theorem add_nil (a : Addr) : a.add 0 = a := by unfold Addr.add; split <;> simp_all
theorem add_add (a : Addr) (k j : Nat) : (a.add k).add j = a.add (k + j) := by
  unfold Addr.add
  split <;> split <;> simp_all <;> omega
theorem RdU.drop {w : World} {a : Addr} {l : List Nat} (h : RdU w (some a) l) (k : Nat) : RdU w (some (a.add k)) (l.drop k) := fun j d hj => by
  rw [List.getElem?_drop] at hj
  obtain ⟨b, hb, h1, h2⟩ := h (k + j) d hj
  cases hb
  exact ⟨_, rfl, by rw [add_blk]; exact h1, by rw [add_add]; exact h2⟩
theorem i64_or_nat (a b : Nat) (ha : a < 9223372036854775808) (hb : b < 9223372036854775808) : bits .or .i64 (a : Int) (b : Int) = ((a ||| b : Nat) : Int) := by
  have h1 : a ||| b < 2 ^ 63 := Nat.or_lt_two_pow ha hb
  have e : bits .or .i64 (a : Int) (b : Int) = IntKind.i64.wrap (((BitVec.ofInt 64 (a : Int) ||| BitVec.ofInt 64 (b : Int)).toNat : Nat) : Int) := rfl
  rw [e, BitVec.toNat_or, BitVec.toNat_ofInt, BitVec.toNat_ofInt]
  rw [show ((a : Int) % ((2 ^ 64 : Nat) : Int)).toNat = a by omega, show ((b : Int) % ((2 ^ 64 : Nat) : Int)).toNat = b by omega, IntKind.wrap_i64]
  have h2 : a ||| b < 9223372036854775808 := h1
  omega
theorem or_add (a b k : Nat) (h : a < 2 ^ k) (hb : b * 2 ^ k < 9223372036854775808) (ha : a < 9223372036854775808) : bits .or .i64 (a : Int) ((b * 2 ^ k : Nat) : Int) = ((a + b * 2 ^ k : Nat) : Int) := by
  have e : a ||| b * 2 ^ k = a + b * 2 ^ k := by
    have := Nat.shiftLeft_add_eq_or_of_lt h b
    rw [Nat.shiftLeft_eq] at this
    rw [Nat.or_comm, ← this, Nat.add_comm]
  rw [i64_or_nat a _ ha hb, e]
theorem left_rd {w : World} {a : Addr} {b : List Nat} {k ac : Nat} (h : RdU w (some a) b) (hk : k ≤ b.length) (hac : b.length ≤ ac) : RdU w (if ac = k then some a else some (a.add k)) (b.drop k) := by
  split
  · rename_i e
    have : b.drop k = [] := List.drop_of_length_le (by omega)
    rw [this]
    exact fun j d hj => by simp at hj
  · exact h.drop k
/-- No number up to most stands at the front. -/
def NoN (most : Nat) (b : List Nat) : Prop := ∀ (n : Nat) (r : List Nat), n ≤ most → b ≠ vn n ++ r
theorem noN_nil (most : Nat) : NoN most [] := fun n r _ h => by
  have h1 := congrArg List.length h
  have h2 := vn_pos n
  simp only [List.length_nil, List.length_append] at h1
  omega
theorem noN_one {most c : Nat} {r : List Nat} (hc : c < 128) (hm : most < c) : NoN most (c :: r) := fun n r' hn h => by
  have h1 : vn c ++ r = vn n ++ r' := by rw [vn_last c (by omega)]; exact h
  have := (vn_eq h1).1
  omega
theorem noN_cut {most c : Nat} (hc : 128 ≤ c) : NoN most [c] := fun n r hn h => by
  by_cases hn' : 128 ≤ n
  · rw [vn_more n hn', List.cons_append] at h
    injection h with _ h2
    have h3 := congrArg List.length h2
    have h4 := vn_pos (n / 128)
    simp only [List.length_nil, List.length_append] at h3
    omega
  · rw [vn_last n hn'] at h
    injection h with h1 _
    omega
theorem noN_long {most c d : Nat} {r : List Nat} (hm : most ≤ 16383) (hc : 128 ≤ c) (hd : 128 ≤ d) : NoN most (c :: d :: r) := fun n r' hn h => by
  by_cases hn' : 128 ≤ n
  · rw [vn_more n hn', vn_last (n / 128) (by omega)] at h
    injection h with _ h2
    injection h2 with h3 _
    omega
  · rw [vn_last n hn'] at h
    injection h with h1 _
    omega
theorem vn_two {c d : Nat} {r : List Nat} (hc : 128 ≤ c) (hc2 : c < 256) (hd : d < 128) (h0 : d ≠ 0) : c :: d :: r = vn (c % 128 + d * 128) ++ r := by
  rw [vn_more _ (by omega), vn_last _ (by omega), show (c % 128 + d * 128) % 128 + 128 = c by omega, show (c % 128 + d * 128) / 128 = d by omega]
  rfl
theorem noN_zero {most c : Nat} {r : List Nat} (hc : 128 ≤ c) : NoN most (c :: 0 :: r) := fun n r' hn h => by
  by_cases hn' : 128 ≤ n
  · rw [vn_more n hn'] at h
    injection h with _ h2
    by_cases h128 : 128 ≤ n / 128
    · rw [vn_more _ h128] at h2
      injection h2 with h3 _
      omega
    · rw [vn_last _ h128] at h2
      injection h2 with h3 _
      omega
  · rw [vn_last n hn'] at h
    injection h with h1 _
    omega
theorem noN_two {most c d : Nat} {r : List Nat} (hc : 128 ≤ c) (hc2 : c < 256) (hd : d < 128) (hm : most < c % 128 + d * 128) : NoN most (c :: d :: r) := fun n r' hn h => by
  by_cases h0 : d = 0
  · subst h0
    exact noN_zero (most := most) hc n r' hn h
  · rw [vn_two hc hc2 hd h0] at h
    have := (vn_eq h).1
    omega
/-- A reader of the program: what is left, and whether it failed. -/
def NumQ (X : Nat) (bo : Option Addr) (b : List Nat) (most : Nat) (w : World) (e : Ending) (w' : World) : Prop :=
  (∃ (n : Nat) (r : List Nat) (bo' : Option Addr) (rl bc' : Nat), b = vn n ++ r ∧ n ≤ most ∧ e = .returned (.int .i64 (n : Int)) ∧ w' = w.setCell ⟨X, 0, none⟩ (.slice bo' rl bc') ∧ rl = r.length ∧ rl ≤ bc' ∧ (∀ W, RdU W bo b → RdU W bo' r)) ∨
  (NoN most b ∧ e = .returned (.int .i64 0) ∧ w' = w.setCell ⟨X, 1, none⟩ (.bool true))
end Go.Proofs.YtkmcbhdjecpmjaaDoor
