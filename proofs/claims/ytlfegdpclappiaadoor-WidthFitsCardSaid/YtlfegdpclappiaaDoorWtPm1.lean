/- What the classes of runes say of their cells; a letter holds no tab but at its beginning. Mathematics alone. -/
import Derived.Test.YtlfegdpclappiaaDoorWtMath
namespace Go.Proofs.YtlfegdpclappiaaDoor

theorem iteP {α : Type} {c : Prop} [Decidable c] {x y : α} (P : α → Prop) (h1 : c → P x) (h2 : ¬ c → P y) : P (if c then x else y) := by
  by_cases h : c
  · rw [if_pos h]; exact h1 h
  · rw [if_neg h]; exact h2 h
def Zr (r : Int) : Prop := (768 ≤ r ∧ r ≤ 879) ∨ (1155 ≤ r ∧ r ≤ 1161) ∨ (1425 ≤ r ∧ r ≤ 1469) ∨ (1611 ≤ r ∧ r ≤ 1631) ∨ (1536 ≤ r ∧ r ≤ 1541) ∨ r = 1757 ∨ r = 1807 ∨ r = 2364 ∨ r = 2381 ∨ (3636 ≤ r ∧ r ≤ 3642) ∨ r = 8204 ∨ r = 8205 ∨ (8400 ≤ r ∧ r ≤ 8432) ∨ (12441 ≤ r ∧ r ≤ 12442) ∨ (65024 ≤ r ∧ r ≤ 65039) ∨ (127995 ≤ r ∧ r ≤ 127999) ∨ (917536 ≤ r ∧ r ≤ 917631) ∨ r = 69821
theorem cls_rng (r : Int) : gpcls r = 4 ∨ gpcls r = 5 ∨ gpcls r = 7 → Zr r := by
  unfold gpcls gplatin gpmarks gpjamo gppunct gpsigns gphigh Zr
  repeat' (refine iteP (fun v => v = 4 ∨ v = 5 ∨ v = 7 → _) (fun _ => ?_) (fun _ => ?_))
  all_goals
    intro h
    omega
theorem zr_zero (r : Int) (h : Zr r) : wzero r = true := by
  unfold Zr at h
  unfold wzero wzmark
  repeat' (refine iteP (fun v => v = true) (fun _ => ?_) (fun _ => ?_))
  all_goals first
    | rfl
    | (exfalso; omega)
theorem cel_zero (a : Int) (x : Nat × Nat) (h : gc x = 4 ∨ gc x = 5 ∨ gc x = 7) : rcel a x.1 = 0 := by
  unfold rcel
  rw [if_pos (zr_zero _ (cls_rng _ h))]
theorem el_cls (r : Int) (h : elR r = true) : gpcls r = 1 ∨ gpcls r = 2 ∨ gpcls r = 3 := by
  unfold elR at h
  have h' : r = 10 ∨ r = 11 ∨ r = 12 ∨ r = 13 ∨ r = 133 ∨ r = 8232 ∨ r = 8233 := by
    split at h
    · omega
    split at h
    · omega
    split at h
    · omega
    split at h
    · omega
    split at h
    · omega
    split at h
    · omega
    split at h
    · omega
    · cases h
  rcases h' with rfl | rfl | rfl | rfl | rfl | rfl | rfl <;> decide
theorem cls_9 : gpcls 9 = 3 := by decide
theorem cls_32 : gpcls 32 = 0 := by decide
theorem cel_32 (a : Int) : rcel a 32 = 1 := by
  unfold rcel
  rw [if_neg (by decide), if_neg (by decide), if_neg (by decide)]
/-- A letter that is only as wide as its widest rune, no tab and no line's end. -/
structure Nrm (f : List (Nat × Nat)) : Prop where
  ne : f ≠ []
  el : elR ((f.headD (0, 0)).1 : Int) = false
  n9 : (f.headD (0, 0)).1 ≠ 9
  n12 : gc (f.headD (0, 0)) ≠ 12
  n13 : gc (f.headD (0, 0)) ≠ 13
theorem nrm_one (r : Nat × Nat) (h : gc r = 0 ∨ gc r = 4 ∨ gc r = 5 ∨ gc r = 7) : Nrm [r] where
  ne := by simp
  el := Bool.eq_false_iff.2 (fun e => by
    have h2 := el_cls _ e
    have e2 : gc r = gpcls (r.1 : Int) := rfl
    simp only [List.headD_cons] at h2
    rw [← e2] at h2
    omega)
  n9 := fun e => by
    have e2 : gc r = gpcls (r.1 : Int) := rfl
    have e3 : r.1 = 9 := e
    rw [e3, show ((9 : Nat) : Int) = 9 from rfl, cls_9] at e2
    omega
  n12 := by show gc r ≠ 12; omega
  n13 := by show gc r ≠ 13; omega
theorem hd_app (f : List (Nat × Nat)) (r : Nat × Nat) (h : f ≠ []) : (f ++ [r]).headD (0, 0) = f.headD (0, 0) := by
  cases f with
  | nil => exact absurd rfl h
  | cons x f => rfl
theorem Nrm.app {f : List (Nat × Nat)} (h : Nrm f) (r : Nat × Nat) : Nrm (f ++ [r]) := by
  have e := hd_app f r h.ne
  exact ⟨by simp, by rw [e]; exact h.el, by rw [e]; exact h.n9, by rw [e]; exact h.n12, by rw [e]; exact h.n13⟩
theorem nrm_lc {f : List (Nat × Nat)} (h : Nrm f) (a : Int) : lcR a f = mfl (gc (f.headD (0, 0))) a 0 f := by
  unfold lcR
  rw [if_neg (fun e => h.n13 e.1)]
theorem nrm_bh {f : List (Nat × Nat)} (h : Nrm f) (a t c : Int) : bhR a t c f = c + lcR a f := by
  unfold bhR
  rw [if_neg (by rw [h.el]; simp), if_neg h.n9]
theorem mfl_app (f a m : Int) (X Y : List (Nat × Nat)) : mfl f a m (X ++ Y) = mfl f a (mfl f a m X) Y := by
  unfold mfl
  rw [List.foldl_append]
theorem nrm_app {f : List (Nat × Nat)} (h : Nrm f) (a : Int) (r : Nat × Nat) : lcR a (f ++ [r]) = max (lcR a f) (rcel a r.1) := by
  rw [nrm_lc (h.app r), nrm_lc h, hd_app f r h.ne, mfl_app]
  show stp _ a _ r.1 = _
  unfold stp
  rw [if_neg (fun e => h.n12 e.2)]
theorem nrm_zero {f : List (Nat × Nat)} (h : Nrm f) (a : Int) (ha : a = 1 ∨ a = 2) (r : Nat × Nat) (hz : gc r = 4 ∨ gc r = 5 ∨ gc r = 7) : lcR a (f ++ [r]) = lcR a f := by
  have := (lcR_bd a ha f).1
  rw [nrm_app h, cel_zero a r hz]
  omega
theorem one_lc (a : Int) (ha : a = 1 ∨ a = 2) (r : Nat × Nat) (h : gc r = 0 ∨ gc r = 4 ∨ gc r = 5 ∨ gc r = 7) : lcR a [r] = rcel a r.1 := by
  have hn := nrm_one r h
  have hb := (rcel_bd a r.1 ha).1
  rw [nrm_lc hn]
  show stp _ a 0 r.1 = _
  unfold stp
  rw [if_neg (fun e => hn.n12 e.2)]
  omega
end Go.Proofs.YtlfegdpclappiaaDoor
