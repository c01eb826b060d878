import Derived.Test.YtljlhlcoaajggaaChkMath
import Derived.Maps.Views
namespace Go.Proofs.Ytljlhlcoaajggaa
open Go.Maps

/-- A block as a key. -/
def bky (b : List Nat) : Lit := .string (b.map UInt8.ofNat)
def ok256 (b : List Nat) : Prop := ∀ c ∈ b, c < 256
theorem bky_inj {a b : List Nat} (ha : ok256 a) (hb : ok256 b) (h : bky a = bky b) : a = b := by
  unfold bky at h
  injection h with h
  induction a generalizing b with
  | nil =>
    cases b with
    | nil => rfl
    | cons y t => simp at h
  | cons x s ih =>
    cases b with
    | nil => simp at h
    | cons y t =>
      simp only [List.map_cons, List.cons.injEq] at h
      have hx := ha x (by simp)
      have hy := hb y (by simp)
      have e : x = y := by
        have := congrArg UInt8.toNat h.1
        rw [UInt8.toNat_ofNat', UInt8.toNat_ofNat'] at this
        omega
      rw [e, ih (fun c hc => ha c (by simp [hc])) (fun c hc => hb c (by simp [hc])) h.2]
/-- The map of blocks to their numbers. -/
def dcF {H : Type} : Nat → DataW H → List (List Nat) → DataW H
  | _, D, [] => D
  | i, D, b :: U => dcF (i + 1) (D.put (bky b) (.lit (.int .u16 (i : Int)))) U
def dct {H : Type} (U : List (List Nat)) : DataW H := dcF 0 (.map []) U
theorem dcF_app {H : Type} : ∀ (U V : List (List Nat)) (i : Nat) (D : DataW H), dcF i D (U ++ V) = dcF (i + U.length) (dcF i D U) V
  | [], V, i, D => rfl
  | b :: U, V, i, D => by
    show dcF (i + 1) _ (U ++ V) = _
    rw [dcF_app U V (i + 1), List.length_cons, show i + 1 + U.length = i + (U.length + 1) by omega]
    rfl
theorem dct_snoc {H : Type} (U : List (List Nat)) (b : List Nat) : (dct (U ++ [b]) : DataW H) = (dct U).put (bky b) (.lit (.int .u16 (U.length : Int))) := by
  unfold dct
  rw [dcF_app, Nat.zero_add]; rfl
theorem isMap_put {H : Type} {D : DataW H} (h : IsMap D) (k : Lit) (d : DataW H) : IsMap (D.put k d) := by
  obtain ⟨es, rfl⟩ := h
  exact ⟨_, rfl⟩
theorem dct_map {H : Type} : ∀ (n : Nat) (U : List (List Nat)), U.length = n → IsMap (dct U : DataW H)
  | 0, U, h => by
    have : U = [] := List.length_eq_zero_iff.1 h
    subst this
    exact ⟨[], rfl⟩
  | n + 1, U, h => by
    rcases List.eq_nil_or_concat U with rfl | ⟨V, b, rfl⟩
    · simp at h
    · rw [List.concat_eq_append, dct_snoc]
      exact isMap_put (dct_map n V (by simp at h; exact h)) _ _
theorem bky_key (b : List Nat) : WideAt.IsKeyLit (bky b) := by unfold bky; trivial
theorem dct_has {H : Type} : ∀ (n : Nat) (U : List (List Nat)) (b : List Nat), U.length = n → (∀ a ∈ U, ok256 a) → ok256 b → Maps.has (dct U : DataW H) (bky b) = decide (b ∈ U)
  | 0, U, b, h, _, _ => by
    have : U = [] := List.length_eq_zero_iff.1 h
    subst this
    simp [dct, dcF, Maps.has]
  | n + 1, U, b, h, hU, hb => by
    rcases List.eq_nil_or_concat U with rfl | ⟨V, c, rfl⟩
    · simp at h
    · rw [List.concat_eq_append] at *
      have hV : V.length = n := by simp at h; exact h
      have ih := dct_has (H := H) n V b hV (fun a ha => hU a (by simp [ha])) hb
      rw [dct_snoc]
      by_cases e : b = c
      · subst e
        rw [has_put_same (dct_map n V hV) (bky_key b)]
        simp
      · rw [has_put_other (fun h2 => e (bky_inj hb (hU c (by simp)) h2)), ih]
        simp [e]
theorem dct_at {H : Type} (z : DataW H) : ∀ (n : Nat) (U : List (List Nat)) (b : List Nat), U.length = n → (∀ a ∈ U, ok256 a) → ok256 b → U.Nodup → (dct U : DataW H).atKey (bky b) z = if b ∈ U then .lit (.int .u16 (U.idxOf b : Int)) else z
  | 0, U, b, h, _, _, _ => by
    have : U = [] := List.length_eq_zero_iff.1 h
    subst this
    simp [dct, dcF, DataW.atKey]
  | n + 1, U, b, h, hU, hb, hnd => by
    rcases List.eq_nil_or_concat U with rfl | ⟨V, c, rfl⟩
    · simp at h
    · rw [List.concat_eq_append] at *
      have hV : V.length = n := by simp at h; exact h
      rw [List.nodup_append] at hnd
      have ih := dct_at z n V b hV (fun a ha => hU a (by simp [ha])) hb hnd.1
      rw [dct_snoc]
      by_cases e : b = c
      · subst e
        have hn : b ∉ V := fun hm => hnd.2.2 b hm b (by simp) rfl
        rw [atKey_put_same (dct_map n V hV) (bky_key b), if_pos (by simp), List.idxOf_append, if_neg hn]
        simp
      · rw [atKey_put_other (fun h2 => e (bky_inj hb (hU c (by simp)) h2)), ih]
        by_cases hm : b ∈ V
        · rw [if_pos hm, if_pos (by simp [hm]), List.idxOf_append, if_pos hm]
        · rw [if_neg hm, if_neg (by simp [hm, e])]
end Go.Proofs.Ytljlhlcoaajggaa
