/- What the walk of UtfScans leans on: Held; slices of bytes as texts; append of marks; what But keeps; Feed in bytes. -/
import Derived.Test.YtflehkdijfhmgabDoorClose
import Derived.Test.YtflehkdijfhmgabDoorLive
import Derived.Laws.AppendOwnNone
namespace Go.Proofs.YtflehkdijfhmgabDoor
open Go.RowKit

set_option maxHeartbeats 400000 in
theorem held_any (x : Nat) (n : Int) (w : World) (hc : w.cell? ⟨x, 3, none⟩ = some (.int .i64 n)) :
    Calls Tryd.prog 14 #[.pointer (some ⟨x, 0, none⟩)] w fun e w' => e = .returned (.int .i64 n) ∧ w' = w := by
  go_enter Tryd.func14, Tryd.ntmps14
  go_wp2
  go_ret
  exact ⟨rfl, rfl⟩

theorem ScAt.c3 {w : World} {x : Nat} {hd : List Int} {F : Int} (h : ScAt w x hd F) : w.cell? ⟨x, 3, none⟩ = some (.int .i64 hd.length) := by
  obtain ⟨a, b, c, hx, _, _⟩ := h
  rw [cell_of_row w x 3 _ 56 (0, 0) hx]; rfl
theorem ScAt.c4 {w : World} {x : Nat} {hd : List Int} {F : Int} (h : ScAt w x hd F) : w.cell? ⟨x, 4, none⟩ = some (.int .i64 F) := by
  obtain ⟨a, b, c, hx, _, _⟩ := h
  rw [cell_of_row w x 4 _ 56 (0, 0) hx]; rfl
theorem ScAt.lt {w : World} {x : Nat} {hd : List Int} {F : Int} (h : ScAt w x hd F) : x < w.heap.size := by
  obtain ⟨a, b, c, hx, _, _⟩ := h
  exact (Array.getElem?_eq_some_iff.1 hx).1
theorem ScAt.same {w w' : World} {x : Nat} {hd : List Int} {F : Int} (h : ScAt w x hd F) (e : w'.heap[x]? = w.heap[x]?) : ScAt w' x hd F := by
  obtain ⟨a, b, c, hx, h1, h2⟩ := h
  exact ⟨a, b, c, e.trans hx, h1, h2⟩

/-- What lies below stays, where the one block that was turned lies above. -/
theorem Below.but {x B n : Nat} {w w' w'' : World} (h : Below n w w') (k : But x B w' w'') (hB : n ≤ B) (hx : n ≤ x) : Below n w w'' :=
  ⟨k.os.trans h.os, k.tape.trans h.tape, k.output.trans h.output, Nat.le_trans h.size k.size, fun j hj => (k.block j (by omega) (by omega)).trans (h.block j hj)⟩
theorem ownsRow_but {x n B : Nat} {w w' : World} {e : TypeId} {size : Nat} {v : Value} {m : Nat} {xs : List Value} (h : w.ownsRow B e size v m xs) (k : But x n w w') (hn : w.heap.size ≤ n) (hx : x < B) : w'.ownsRow B e size v m xs := by
  refine ⟨h.1, ?_⟩
  rcases h.2 with h0 | ⟨g, cap, cur, hv, hb, hg, hr⟩
  · exact Or.inl h0
  · exact Or.inr ⟨g, cap, cur, hv, hb, (k.block g (Nat.lt_of_lt_of_le (Array.getElem?_eq_some_iff.1 hg).1 hn) (by omega)).trans hg, hr⟩

/-- A slice of bytes, nil or not, reads as a text. -/
def RdB (w : World) (ao : Option Addr) (B : List UInt8) : Prop :=
  ∀ (k : Nat) (b : UInt8), B[k]? = some b → ∃ a : Addr, ao = some a ∧ a.block < w.heap.size ∧ w.cell? (a.add k) = some (.int .u8 (b.toNat : Int))
theorem add_blk (a : Addr) (k : Nat) : (a.add k).block = a.block := by unfold Addr.add; split <;> rfl
theorem RdB.below {w w' : World} {ao : Option Addr} {B : List UInt8} {n : Nat} (h : RdB w ao B) (hb : Below n w w') (hn : ∀ a, ao = some a → a.block < n) : RdB w' ao B := fun k b hk => by
  obtain ⟨a, h1, h2, h3⟩ := h k b hk
  exact ⟨a, h1, Nat.lt_of_lt_of_le h2 hb.size, (hb.cell (p := a.add k) (by rw [add_blk]; exact hn a h1)).trans h3⟩
theorem conv_none (w : World) : (convert 30 9 (.slice none 0 0)).run Tryd.prog w = .ok (.string ⟨([] : List UInt8).toArray⟩) w := by kernel_rfl
theorem conv_rd {w : World} {ao : Option Addr} {B : List UInt8} (cap : Nat) (h : RdB w ao B) (hn : ao = none → cap = 0) : (convert 30 9 (.slice ao B.length cap)).run Tryd.prog w = .ok (.string ⟨B.toArray⟩) w := by
  cases ao with
  | none =>
    have hB : B = [] := by
      cases B with
      | nil => rfl
      | cons y ys => obtain ⟨a, h1, _⟩ := h 0 y rfl; cases h1
    subst hB
    rw [hn rfl]
    exact conv_none w
  | some a =>
    refine run_convert_bytes_back _ 30 9 5 a cap B Tryd.underlying30 Tryd.underlying5 Tryd.underlying9 (fun j hj => ?_)
    obtain ⟨a', h1, _, h3⟩ := h j B[j] (List.getElem?_eq_getElem hj)
    cases h1
    exact h3

/-- What was told of a text, and how many bytes of it. -/
def tld (S : List UInt8) : List Mk := (sc 0 (ib S)).1
def tln (S : List UInt8) : Nat := (sc 0 (ib S)).2
theorem tln_le (S : List UInt8) : tln S ≤ S.length := by have := (sc_end 0 (ib S)).1; rw [ib_len] at this; exact this
theorem tld_le (S : List UInt8) : (tld S).length ≤ tln S := (scu_le (ib S).length 0 (ib S) (Nat.le_refl _)).2
theorem rest_none (S : List UInt8) : frst (ib (S.drop (tln S))) = none := by have := (sc_end 0 (ib S)).2; rw [ib_drop] at this; exact this
theorem tld_app (S B : List UInt8) : tld (S ++ B) = tld S ++ (sc (tln S) (ib (S.drop (tln S) ++ B))).1 ∧ tln (S ++ B) = tln S + (sc (tln S) (ib (S.drop (tln S) ++ B))).2 := by
  have h := scu_app (ib S).length 0 (ib S) (ib B) (Nat.le_refl _)
  rw [← ib_app, ib_drop, ← ib_app, Int.zero_add] at h
  unfold tld tln
  rw [h]; exact ⟨rfl, rfl⟩
theorem tld_all (S : List UInt8) : tld S ++ flts (tln S) (S.length - tln S) = mks 0 S := by
  have h := mks_sc S.length 0 S (Nat.le_refl _)
  have h2 : mks (0 + (sc ((0 : Nat) : Int) (ib S)).2) (S.drop (sc ((0 : Nat) : Int) (ib S)).2) = flts (tln S) (S.length - tln S) := by
    have := mks_none (tln S) (S.drop (tln S)) (rest_none S)
    rw [List.length_drop] at this
    rw [Nat.zero_add]
    exact this
  rw [h, h2]; rfl

set_option maxHeartbeats 400000 in
theorem feed_bytes (x q oq cp : Nat) (S B : List UInt8) (w : World) (hs : ScAt w x (ib (S.drop (tln S))) S.length) (hS : S.length ≤ 100000) (hB : B.length ≤ 100000) (hqx : q ≠ x) (hcp : B.length ≤ cp) (hq : q < w.heap.size)
    (hc : ∀ i b, B[i]? = some b → w.cell? ⟨q, oq + i, none⟩ = some (.int .u8 (b.toNat : Int))) :
    Calls Tryd.prog 11 #[.pointer (some ⟨x, 0, none⟩), .slice (some ⟨q, oq, none⟩) B.length cp] w fun e w' => ∃ v, e = .returned v ∧
      w'.ownsRow w.heap.size 50 4 v (sc (tln S) (ib (S.drop (tln S) ++ B))).1.length (mkcs (sc (tln S) (ib (S.drop (tln S) ++ B))).1) ∧ ScAt w' x (ib ((S ++ B).drop (tln (S ++ B)))) (S ++ B).length ∧ But x w.heap.size w w' := by
  have hb0 : ∀ (l : List UInt8) i, i < l.length → (ib l).getD i 0 = ((l.getD i 0).toNat : Int) := fun l i hi => by simp [ib, List.getD, hi]
  have ht := tln_le S
  refine (feed_any x q oq B.length cp S.length (ib (S.drop (tln S))) (ib B) w hs (ib_len B) (by omega) (by rw [ib_len]; simp) (by omega) hqx hcp hq (fun i hi => ?_) (fun i hi => ?_) (fun i hi => ?_)).mono ?_
  · rw [ib_len] at hi; rw [hb0 _ i hi]; have := ((S.drop (tln S)).getD i 0).toNat_lt; omega
  · rw [hb0 B i hi]; have := (B.getD i 0).toNat_lt; omega
  · rw [hb0 B i hi, hc i B[i] (List.getElem?_eq_getElem hi)]
    simp [List.getD, hi]
  · rintro e w' ⟨v, he, ho, hsc, hbu⟩
    have e1 : ((S.length : Int) - ((ib (S.drop (tln S))).length : Nat)) = (tln S : Int) := by rw [ib_len, List.length_drop]; omega
    rw [e1, ← ib_app] at ho hsc
    refine ⟨v, he, ho, ?_, hbu⟩
    have e2 : (S ++ B).drop (tln (S ++ B)) = (S.drop (tln S) ++ B).drop (sc (tln S) (ib (S.drop (tln S) ++ B))).2 := by
      rw [(tld_app S B).2, ← List.drop_drop, List.drop_append_of_le_length ht]
    rw [e2, ← ib_drop]
    have e3 : ((S ++ B).length : Int) = (S.length : Int) + ((ib B).length : Nat) := by rw [ib_len, List.length_append]; omega
    rw [e3]; exact hsc
end Go.Proofs.YtflehkdijfhmgabDoor
