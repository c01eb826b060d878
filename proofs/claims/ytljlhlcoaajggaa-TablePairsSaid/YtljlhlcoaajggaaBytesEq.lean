/- The contract of bytes.Equal. -/
import Derived.Test.YtljlhlcoaajggaaReader
import Derived.Lib.BufferRead
import Derived.Laws.IdiomStrings
namespace Go.Proofs.Ytljlhlcoaajggaa
open Go.RowKit

def ub (l : List Nat) : List UInt8 := l.map UInt8.ofNat
theorem ub_len (l : List Nat) : (ub l).length = l.length := by simp [ub]
theorem conv_rd {w : World} {ao : Option Addr} {l : List Nat} (ac : Nat) (h : RdU w ao l) (h8 : ∀ c ∈ l, c < 256) (hn : ao = none → ac = 0) : (convert 58 9 (.slice ao l.length ac)).run Try.prog w = .ok (.string ⟨(ub l).toArray⟩) w := by
  cases ao with
  | none =>
    have : l = [] := by
      cases l with
      | nil => rfl
      | cons c l => obtain ⟨a, ha, _⟩ := h 0 c rfl; cases ha
    subst this
    rw [hn rfl]
    exact Lib.run_convert_nil_bytes w 58 9 5 0 Try.underlying58 Try.underlying5 Try.underlying9
  | some a =>
    have e := run_convert_bytes_back (P := Try.prog) w 58 9 5 a ac (ub l) Try.underlying58 Try.underlying5 Try.underlying9 (fun j hj => by
      rw [ub_len] at hj
      obtain ⟨b, hb, _, h2⟩ := h j l[j] (List.getElem?_eq_getElem hj)
      cases hb
      rw [h2]
      have hc := h8 l[j] (List.getElem_mem hj)
      have e2 : (ub l)[j]'(by rw [ub_len]; exact hj) = UInt8.ofNat l[j] := by simp [ub]
      rw [e2, UInt8.toNat_ofNat', Nat.mod_eq_of_lt hc])
    rw [ub_len] at e
    exact e
theorem ub_inj : ∀ (l m : List Nat), (∀ c ∈ l, c < 256) → (∀ c ∈ m, c < 256) → ub l = ub m → l = m
  | [], [], _, _, _ => rfl
  | [], _ :: _, _, _, h => by simp [ub] at h
  | _ :: _, [], _, _, h => by simp [ub] at h
  | x :: l, y :: m, hl, hm, h => by
    simp only [ub, List.map_cons, List.cons.injEq] at h
    have h1 := congrArg UInt8.toNat h.1
    rw [UInt8.toNat_ofNat', UInt8.toNat_ofNat', Nat.mod_eq_of_lt (hl x (by simp)), Nat.mod_eq_of_lt (hm y (by simp))] at h1
    rw [h1, ub_inj l m (fun c hc => hl c (by simp [hc])) (fun c hc => hm c (by simp [hc])) h.2]

theorem bequal_any (ao bo : Option Addr) (ac bc : Nat) (l m : List Nat) (w : World) (ha : RdU w ao l) (hb : RdU w bo m) (hl : ∀ c ∈ l, c < 256) (hm : ∀ c ∈ m, c < 256) (hna : ao = none → ac = 0) (hnb : bo = none → bc = 0) :
    Calls Try.prog 58 #[.slice ao l.length ac, .slice bo m.length bc] w fun e w' => e = .returned (.bool (decide (l = m))) ∧ w' = w := by
  have c1 := conv_rd ac ha hl hna
  have c2 := conv_rd bc hb hm hnb
  have HI := hid (ub_inj l m hl hm)
  clear ha hb hl hm hna hnb
  have HQ := hid (show decide (l = m) = (ub l == ub m) by
    by_cases h : l = m
    · rw [decide_eq_true h, h]; simp
    · rw [decide_eq_false h]; exact (beq_eq_false_iff_ne.2 (fun e => h (HI.out e))).symm)
  obtain ⟨t, ht⟩ : ∃ t, t = decide (l = m) := ⟨_, rfl⟩
  rw [← ht] at HQ ⊢
  clear ht HI
  go_enter Try.func58, Try.ntmps58
  go_wp2
  go_ret
  exact ⟨by rw [HQ.out]; rfl, rfl⟩
end Go.Proofs.Ytljlhlcoaajggaa
