/- A maker and its table in memory; the contract of number (package table). -/
import Derived.Test.YtljlhlcoaajggaaKey
import Derived.Deep.MidRow
import Derived.Deep.AppendLies
namespace Go.Proofs.Ytljlhlcoaajggaa
open Go.RowKit Go.Maps Go.WideMaps

def u16n (l : List Nat) : List Value := l.map fun b : Nat => Value.int .u16 (b : Int)
theorem u16n_len (a : List Nat) : (u16n a).length = a.length := by simp [u16n]
def mkc (T K : Nat) (op : List Nat) (nx : Nat) : List Value := .pointer (some ⟨T, 0, none⟩) :: .map (some K) :: (u8n op ++ [.int .i64 (nx : Int)])
def tbc (fs : List Nat) (bv : Value) (rest : Nat) : List Value := u16n fs ++ [bv, .int .u8 (rest : Int)]
structure MkAt (B M T K : Nat) (fs : List Nat) (U : List (List Nat)) (bv : Value) (rest : Nat) (op : List Nat) (nx : Nat) (w : World) : Prop where
  hM : w.heap[M]? = some (.cells (mkc T K op nx).toArray 103 (0, 0))
  hT : w.heap[T]? = some (.cells (tbc fs bv rest).toArray 79 (0, 0))
  hK : w.ownsMap (H := Unit) Try.prog 82 (plainElem Try.prog 75) K U.length (dct U)
  hR : w.ownsRow B 82 128 bv U.length (U.flatMap u8n)
  ho : op.length = 128
  hf : fs.length = 8704
  bM : B ≤ M
  bT : B ≤ T
  bK : B ≤ K
theorem cell_row (w : World) (b j : Nat) (l : List Value) (t : TypeId) (v : Value) (h : w.heap[b]? = some (.cells l.toArray t (0, 0))) (hv : l[j]? = some v) : w.cell? ⟨b, j, none⟩ = some v := by
  rw [cell_of_row w b j l.toArray t (0, 0) h]
  simpa using hv
theorem range_row (w : World) (b o : Nat) (l cs : List Value) (t : TypeId) (h : w.heap[b]? = some (.cells l.toArray t (0, 0))) (hc : ∀ j v, cs[j]? = some v → l[o + j]? = some v) : w.rangeAt b o cs := fun j v hv => cell_row w b (o + j) l t v h (hc j v hv)
section
variable {B M T K : Nat} {fs : List Nat} {U : List (List Nat)} {bv : Value} {rest : Nat} {op : List Nat} {nx : Nat} {w : World}
theorem MkAt.c0 (h : MkAt B M T K fs U bv rest op nx w) : w.cell? ⟨M, 0, none⟩ = some (.pointer (some ⟨T, 0, none⟩)) := cell_row w M 0 _ 103 _ h.hM rfl
theorem MkAt.c1 (h : MkAt B M T K fs U bv rest op nx w) : w.cell? ⟨M, 1, none⟩ = some (.map (some K)) := cell_row w M 1 _ 103 _ h.hM rfl
theorem MkAt.rg (h : MkAt B M T K fs U bv rest op nx w) : w.rangeAt M 2 (u8n op) := range_row w M 2 _ _ 103 h.hM fun j v hv => by
  have hj : j < (u8n op).length := (List.getElem?_eq_some_iff.1 hv).1
  show (.pointer (some ⟨T, 0, none⟩) :: .map (some K) :: (u8n op ++ [.int .i64 (nx : Int)]) : List Value)[2 + j]? = some v
  rw [show 2 + j = j + 1 + 1 by omega, List.getElem?_cons_succ, List.getElem?_cons_succ, List.getElem?_append_left hj, hv]
theorem MkAt.cn (h : MkAt B M T K fs U bv rest op nx w) : w.cell? ⟨M, 130, none⟩ = some (.int .i64 (nx : Int)) := cell_row w M 130 _ 103 _ h.hM (by
  show (.pointer (some ⟨T, 0, none⟩) :: .map (some K) :: (u8n op ++ [.int .i64 (nx : Int)]) : List Value)[128 + 1 + 1]? = _
  have hl : (u8n op).length = 128 := by rw [u8n_len, h.ho]
  rw [List.getElem?_cons_succ, List.getElem?_cons_succ, List.getElem?_append_right (by omega), hl]
  rfl)
theorem MkAt.tb (h : MkAt B M T K fs U bv rest op nx w) : w.cell? ⟨T, 8704, none⟩ = some bv := cell_row w T 8704 _ 79 _ h.hT (by
  have hl : (u16n fs).length = 8704 := by rw [u16n_len, h.hf]
  unfold tbc
  rw [List.getElem?_append_right (by omega), hl]
  rfl)
end
theorem u8n_one (b : List Nat) : ∀ v ∈ u8n b, v.oneCell' = true := fun v hv => by
  obtain ⟨c, _, rfl⟩ := List.mem_map.1 hv
  rfl
theorem zero75 (w : World) : (zeroValue 75).run Try.prog w = .ok (.int .u16 0) w := by kernel_rfl
theorem lit_inj {a b : Int} (h : (DataW.lit (.int .u16 a) : DataW Unit) = .lit (.int .u16 b)) : a = b := by simpa using h
theorem look75 {w : World} {K : Nat} {U : List (List Nat)} (h : w.ownsMap (H := Unit) Try.prog 82 (plainElem Try.prog 75) K U.length (dct U)) (op : List Nat) (ho : op.length = 128) (h8 : ok256 op) (hU : ∀ a ∈ U, ok256 a) (hn : U.Nodup) :
    (Instr.lookup 101 (.map (some K)) (blk op) true).run Try.prog w = .ok (.tuple #[.int .u16 (if op ∈ U then (U.idxOf op : Int) else 0), .bool (decide (op ∈ U))]) w := by
  obtain ⟨v, ps, hr, hv⟩ := h.look_ok law82 Try.underlying101 (zero75 w) (plainElem_int Try.underlying75 (by decide)) (keyOf_blk op ho h8)
  rw [hr, dct_has U.length U op rfl hU h8]
  rw [dct_at _ U.length U op rfl hU h8 hn] at hv
  obtain ⟨c, rfl, hc, _⟩ := plainElem_int_inv Try.underlying75 hv
  have hc2 : (if op ∈ U then (DataW.lit (.int .u16 (U.idxOf op : Int)) : DataW Unit) else .lit (.int .u16 0)) = .lit (.int .u16 c) := congrArg Prod.fst hc
  have e : c = if op ∈ U then (U.idxOf op : Int) else 0 := by
    by_cases hm : op ∈ U
    · rw [if_pos hm] at hc2 ⊢
      exact (lit_inj hc2).symm
    · rw [if_neg hm] at hc2 ⊢
      exact (lit_inj hc2).symm
  rw [e]
end Go.Proofs.Ytljlhlcoaajggaa
