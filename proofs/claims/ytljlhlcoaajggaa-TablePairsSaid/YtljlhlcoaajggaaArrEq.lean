/- Arrays of numbers that are the same. -/
import Derived.Test.YtljlhlcoaajggaaLoad
import Derived.ChangeKeysEq
import Derived.DeepKeys
namespace Go.Proofs.Ytljlhlcoaajggaa
open Go.RowKit

/-- A list of numbers as values of a kind. -/
def kn (k : IntKind) (l : List Nat) : List Value := l.map fun (c : Nat) => .int k (c : Int)
theorem kn_get {k : IntKind} {l : List Nat} {i c : Nat} (h : l[i]? = some c) : (kn k l).toArray[i]? = some (.int k (c : Int)) := by
  rw [List.getElem?_toArray]; unfold kn; rw [List.getElem?_map, h]; rfl
theorem items_eq (d : Nat) (e : TypeId) (k : IntKind) (he : Try.prog.underlying e = some (.int k)) (hag : ∀ w, (isAgg e).run Try.prog w = .ok false w) (a b : List Nat) (w : World) : ∀ is : List Nat, (∀ i ∈ is, i < a.length ∧ i < b.length) →
    (Op.eqItems (d + 1) e 1 (kn k a).toArray (kn k b).toArray is).run Try.prog w = .ok (is.all fun i => decide (a[i]? = b[i]?)) w
  | [], _ => by simp [Op.eqItems]
  | i :: is, h => by
    obtain ⟨h1, h2⟩ := h i (by simp)
    have ih := items_eq d e k he hag a b w is (fun j hj => h j (by simp [hj]))
    have g1 := kn_get (k := k) (List.getElem?_eq_getElem h1)
    have g2 := kn_get (k := k) (List.getElem?_eq_getElem h2)
    have e1 : ((a[i] : Int) == (b[i] : Int)) = decide (a[i]? = b[i]?) := by
      rw [List.getElem?_eq_getElem h1, List.getElem?_eq_getElem h2, Bool.eq_iff_iff]
      simp only [beq_iff_eq, decide_eq_true_eq, Option.some.injEq]
      omega
    have r1 : (part e (kn k a).toArray (i * 1)).run Try.prog w = .ok (.int k (a[i] : Int)) w := by
      rw [Nat.mul_one]
      unfold part
      rw [Sem.run_bind, hag w, Result.andThen_ok, if_neg (by decide), g1]
      rfl
    have r2 : (part e (kn k b).toArray (i * 1)).run Try.prog w = .ok (.int k (b[i] : Int)) w := by
      rw [Nat.mul_one]
      unfold part
      rw [Sem.run_bind, hag w, Result.andThen_ok, if_neg (by decide), g2]
      rfl
    have r3 : (Op.equalIn (d + 1) e (.int k (a[i] : Int)) (.int k (b[i] : Int))).run Try.prog w = .ok (decide (a[i]? = b[i]?)) w := by
      rw [← e1]
      exact run_equalIn_int w d e k k _ _ he
    simp only [Op.eqItems, Sem.run_bind, r1, r2, r3, Result.andThen_ok, List.all_cons]
    cases decide (a[i]? = b[i]?)
    · simp
    · simpa using ih
theorem range_all (a b : List Nat) (n : Nat) (ha : a.length = n) (hb : b.length = n) : ((List.range n).all fun i => decide (a[i]? = b[i]?)) = decide (a = b) := by
  rw [Bool.eq_iff_iff, List.all_eq_true]
  simp only [List.mem_range, decide_eq_true_eq]
  constructor
  · intro h
    apply List.ext_getElem?
    intro i
    by_cases hi : i < n
    · exact h i hi
    · rw [List.getElem?_eq_none (by omega), List.getElem?_eq_none (by omega)]
  · intro h i _
    rw [h]
theorem agg5' (w : World) : (isAgg 5).run Try.prog w = .ok false w := by kernel_rfl
theorem agg75 (w : World) : (isAgg 75).run Try.prog w = .ok false w := by kernel_rfl
theorem Try.info75 : ∃ i, Try.prog.info? 75 = some i := Option.isSome_iff_exists.1 (by kernel_rfl)
theorem Try.info5' : ∃ i, Try.prog.info? 5 = some i := Option.isSome_iff_exists.1 (by kernel_rfl)
theorem cells75 : Try.prog.cellsOf 75 = 1 := by kernel_rfl
theorem cells5 : Try.prog.cellsOf 5 = 1 := by kernel_rfl
theorem eq76 (a b : List Nat) (ha : a.length = 8704) (hb : b.length = 8704) (w : World) : (Op.equalIn 10000 76 (.agg (u16n a).toArray) (.agg (u16n b).toArray)).run Try.prog w = .ok (decide (a = b)) w := by
  obtain ⟨i, hi⟩ := Try.info75
  rw [run_equalIn_array w 9999 (u16n a).toArray (u16n b).toArray Try.underlying76 hi, cells75]
  rw [← range_all a b 8704 ha hb]
  exact items_eq 9998 75 .u16 Try.underlying75 agg75 a b w _ (fun j hj => by rw [List.mem_range] at hj; omega)
theorem eq82 (a b : List Nat) (ha : a.length = 128) (hb : b.length = 128) (w : World) : (Op.equalIn 10000 82 (.agg (u8n a).toArray) (.agg (u8n b).toArray)).run Try.prog w = .ok (decide (a = b)) w := by
  obtain ⟨i, hi⟩ := Try.info5'
  rw [run_equalIn_array w 9999 (u8n a).toArray (u8n b).toArray Try.underlying82 hi, cells5]
  rw [← range_all a b 128 ha hb]
  exact items_eq 9998 5 .u8 Try.underlying5 agg5' a b w _ (fun j hj => by rw [List.mem_range] at hj; omega)
end Go.Proofs.Ytljlhlcoaajggaa
