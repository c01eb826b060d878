/- Strings cut by lists: what a slice of a string comes to, without copying what stands behind. -/
import Derived.Test.YtkjnaamlhkldmabEv10
namespace Go.Proofs.Ytkjnaamlhkldmab.Ev
open Go.RowKit
def dropO : Nat → List UInt8 → Option (List UInt8)
  | 0, l => some l
  | _ + 1, [] => none
  | n + 1, _ :: l => dropO n l
def takeO : Nat → List UInt8 → Option (List UInt8)
  | 0, _ => some []
  | _ + 1, [] => none
  | n + 1, b :: l => match takeO n l with
    | some r => some (b :: r)
    | none => none
theorem dropO_is : ∀ {n : Nat} {l r : List UInt8}, dropO n l = some r → n ≤ l.length ∧ r = l.drop n
  | 0, l, r, h => by cases h; exact ⟨Nat.zero_le _, rfl⟩
  | n + 1, [], r, h => by cases h
  | n + 1, b :: l, r, h => by
    obtain ⟨h1, h2⟩ := dropO_is (n := n) (l := l) h
    exact ⟨by rw [List.length_cons]; omega, by rw [List.drop_succ_cons]; exact h2⟩
theorem takeO_is : ∀ {n : Nat} {l r : List UInt8}, takeO n l = some r → n ≤ l.length ∧ r = l.take n
  | 0, l, r, h => by cases h; exact ⟨Nat.zero_le _, by simp⟩
  | n + 1, [], r, h => by cases h
  | n + 1, b :: l, r, h => by
    unfold takeO at h
    split at h
    · rename_i q hq
      cases h
      obtain ⟨h1, h2⟩ := takeO_is hq
      exact ⟨by rw [List.length_cons]; omega, by rw [List.take_succ_cons, h2]⟩
    · cases h
def bndO : Option Value → Option (Option Nat)
  | none => some none
  | some (.int _ z) => if 0 ≤ z then some (some z.toNat) else none
  | _ => none
def mkS (r : List UInt8) : Value := .string ⟨⟨r⟩⟩
def cutS (s : ByteArray) (a : Nat) : Option Nat → Option Value
  | none => match dropO a s.data.toList with
    | some r => some (mkS r)
    | none => none
  | some b => bif Nat.ble a b then (match dropO a s.data.toList with
    | some r => (match takeO (b - a) r with
      | some q => some (mkS q)
      | none => none)
    | none => none) else none
noncomputable def aStrS (P : Program) (t : TypeId) (x : Value) (lo hi : Option Value) : Option Value :=
  match P.underlying t, x, bndO lo, bndO hi with
  | some .string, .string s, some a, some b => cutS s (a.getD 0) b
  | _, _, _, _ => none
theorem ext_list (s : ByteArray) (a b : Nat) (r : List UInt8) (h : r = (s.data.toList.drop a).take (b - a)) : s.extract a b = ⟨⟨r⟩⟩ := by
  subst h
  apply ByteArray.ext
  apply Array.ext'
  simp [ByteArray.data_extract]
theorem cutS_is {s : ByteArray} {a : Nat} {b : Option Nat} {v : Value} (h : cutS s a b = some v) : a ≤ b.getD s.size ∧ b.getD s.size ≤ s.size ∧ v = .string (s.extract a (b.getD s.size)) := by
  have hz : s.size = s.data.toList.length := by rw [Array.length_toList]; rfl
  cases b with
  | none =>
    simp only [cutS] at h
    split at h
    · rename_i r hr
      cases h
      obtain ⟨h1, h2⟩ := dropO_is hr
      refine ⟨by simp only [Option.getD_none]; omega, Nat.le_refl _, ?_⟩
      unfold mkS
      rw [ext_list s a _ r (by rw [Option.getD_none, List.take_of_length_le (by rw [List.length_drop]; omega)]; exact h2)]
    · cases h
  | some b =>
    simp only [cutS] at h
    cases hb : Nat.ble a b with
    | false => rw [hb] at h; cases h
    | true =>
      rw [hb] at h
      have hab := Nat.le_of_ble_eq_true hb
      simp only [cond_true] at h
      split at h
      · rename_i r hr
        split at h
        · rename_i q hq
          cases h
          obtain ⟨h1, h2⟩ := dropO_is hr
          obtain ⟨h3, h4⟩ := takeO_is hq
          rw [h2, List.length_drop] at h3
          refine ⟨hab, by simp only [Option.getD_some]; omega, ?_⟩
          unfold mkS
          rw [ext_list s a _ q (by rw [Option.getD_some, h4, h2])]
        · cases h
      · cases h
theorem bndO_is {μ : Mu} {x x' : Option Value} {a : Option Nat} (h : OVR μ x x') (hb : bndO x = some a) : (x' = none ∧ a = none) ∨ ∃ k z, x' = some (.int k z) ∧ 0 ≤ z ∧ a = some z.toNat := by
  unfold bndO at hb
  split at hb
  · cases hb
    simp only [OVR] at h
    exact .inl ⟨h, rfl⟩
  · split at hb
    · rename_i k z hz
      cases hb
      simp only [OVR] at h
      obtain ⟨v, rfl, hv⟩ := h
      simp only [VR] at hv
      subst hv
      exact .inr ⟨k, z, rfl, hz, rfl⟩
    · cases hb
  · cases hb
theorem aStrS_ok {P : Program} {μ : Mu} {t : TypeId} {x x' v : Value} {lo hi lo' hi' : Option Value} {w : World} (hx : VR μ x x') (hlo : OVR μ lo lo') (hhi : OVR μ hi hi') (h : aStrS P t x lo hi = some v) :
    (Instr.sliceAt t x' lo' hi' none).run P w = .ok v w ∧ VR μ v v := by
  unfold aStrS at h
  split at h
  · rename_i s a b hd ha hb
    simp only [VR] at hx
    subst hx
    obtain ⟨h1, h2, rfl⟩ := cutS_is h
    refine ⟨?_, by simp [VR]⟩
    rcases bndO_is hlo ha with ⟨rfl, rfl⟩ | ⟨k, z, rfl, hz, rfl⟩ <;> rcases bndO_is hhi hb with ⟨rfl, rfl⟩ | ⟨k2, z2, rfl, hz2, rfl⟩
    · simp [Instr.sliceAt, Instr.slice, Instr.sliceBounds, rU hd]
    · simp only [Option.getD_some, Option.getD_none] at h1 h2
      have e : 0 ≤ z2 ∧ z2 ≤ (s.size : Int) := ⟨hz2, by omega⟩
      simp [Instr.sliceAt, Instr.slice, Instr.sliceBounds, Instr.sliceBound, rU hd, asIntOf, e]
    · simp only [Option.getD_some, Option.getD_none] at h1 h2
      have e : 0 ≤ z ∧ z ≤ (s.size : Int) := ⟨hz, by omega⟩
      simp [Instr.sliceAt, Instr.slice, Instr.sliceBounds, Instr.sliceBound, rU hd, asIntOf, e]
    · simp only [Option.getD_some] at h1 h2
      have e : 0 ≤ z2 ∧ z2 ≤ (s.size : Int) := ⟨hz2, by omega⟩
      have e2 : 0 ≤ z ∧ z ≤ ((z2.toNat : Nat) : Int) := ⟨hz, by omega⟩
      simp only [Instr.sliceAt, Instr.slice, Instr.sliceBounds, Instr.sliceBound, rU hd, asIntOf, Sem.run_bind, Result.andThen, Sem.run_pure, Option.isSome_none, Bool.false_eq_true, if_false, e, e2, and_self, if_true]
      simp
  · cases h
end Go.Proofs.Ytkjnaamlhkldmab.Ev
