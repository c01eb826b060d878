/- Edges, the one ahead and the one behind: what the program finds is what stands in the list of edges. -/
import Derived.Test.YtflehkdijfhmgaaDoorEdgeMath
namespace Go.Proofs.YtflehkdijfhmgaaDoor

/-- The edges of a text. -/
def edg (l : List UInt8) : List Int := (mks 0 l).map (·.pl) ++ [(l.length : Int)]
def isL (E : List Int) (p : Int) : Bool := E.any (fun e => e == p)
def backL (E : List Int) (p : Int) : Int := E.foldl (fun b e => if e < p then e else b) 0
def onL (E : List Int) (p d : Int) : Int := (E.find? (fun e => decide (p < e))).getD d

def backE (l : List UInt8) (p : Int) : Int := if p ≤ 0 then 0 else if (l.length : Int) < p then l.length else bgF l (p.toNat - 1) 4
def onE (l : List UInt8) (p : Int) : Int := if p < 0 then 0 else if (l.length : Int) ≤ p then l.length else (bgF l p.toNat 4 : Int) + wid l (bgF l p.toNat 4)

theorem pl_ge (l : List UInt8) : ∀ m ∈ mks 0 l, 0 ≤ m.pl ∧ m.pl < l.length := fun m hm => by
  have h := mks_ge l l.length 0 (by omega) m (by simpa using hm)
  exact ⟨h.1, h.2⟩
theorem edg_bd (l : List UInt8) (x : Int) (hx : x ∈ edg l) : 0 ≤ x ∧ x ≤ l.length := by
  unfold edg at hx
  rcases List.mem_append.1 hx with h | h
  · obtain ⟨m, hm, rfl⟩ := List.mem_map.1 h
    have := pl_ge l m hm; omega
  · simp at h; omega
theorem edg_len (l : List UInt8) : (l.length : Int) ∈ edg l := by simp [edg]
theorem edg_head (l : List UInt8) : ∃ R, edg l = 0 :: R := by
  by_cases h : l = []
  · subst h; exact ⟨[], rfl⟩
  · unfold edg
    rw [mks_cons 0 l h]
    exact ⟨_, rfl⟩

/-- The list of edges, parted at a byte. -/
theorem edg_parts (l : List UInt8) (q : Nat) (hq : q < l.length) : ∃ (e : Nat) (U V : List Int), edg l = U ++ (e : Int) :: V ∧ (∀ x ∈ U, x < (e : Int)) ∧ e ≤ q ∧ q < e + wid l e ∧ bgF l q 4 = e ∧
    (∀ x ∈ V, ((e + wid l e : Nat) : Int) ≤ x) ∧ ∃ R, V = ((e + wid l e : Nat) : Int) :: R := by
  obtain ⟨e, P, g1, g2, g3, g4, g5⟩ := locate l q hq l.length 0 (by omega) (Nat.zero_le _)
  have g4' : mks 0 l = P ++ mk1 e (l.drop e) :: mks (e + wid l e) (l.drop (e + wid l e)) := by simpa using g4
  have hel : e < l.length := by omega
  have hwl := wid_le l e hel
  refine ⟨e, P.map (·.pl), (mks (e + wid l e) (l.drop (e + wid l e))).map (·.pl) ++ [(l.length : Int)], ?_, ?_, g2, g3, begin_is l q e P hq g2 g3 g4', ?_, ?_⟩
  · unfold edg; rw [g4']; simp [mk1]
  · intro x hx
    obtain ⟨m, hm, rfl⟩ := List.mem_map.1 hx
    exact g5 m hm
  · intro x hx
    rcases List.mem_append.1 hx with h | h
    · obtain ⟨m, hm, rfl⟩ := List.mem_map.1 h
      exact (mks_ge l (l.length - (e + wid l e)) (e + wid l e) (Nat.le_refl _) m hm).1
    · simp at h; omega
  · by_cases h : e + wid l e < l.length
    · rw [mks_at l _ h]; exact ⟨_, rfl⟩
    · rw [mks_end l _ h]
      have : e + wid l e = l.length := by omega
      rw [this]; exact ⟨[], rfl⟩

theorem is_eq (l : List UInt8) (p : Int) : isE l p = isL (edg l) p := by
  have no : (∀ x ∈ edg l, x ≠ p) → isL (edg l) p = false := fun h => by
    unfold isL; rw [List.any_eq_false]; intro x hx; simpa using h x hx
  have yes : p ∈ edg l → isL (edg l) p = true := fun h => by
    unfold isL; rw [List.any_eq_true]; exact ⟨p, h, by simp⟩
  unfold isE
  by_cases h1 : p ≤ 0
  · rw [if_pos h1]
    by_cases h0 : p = 0
    · obtain ⟨R, hR⟩ := edg_head l
      rw [yes (by rw [hR, h0]; simp), h0]; rfl
    · rw [no fun x hx => by have := edg_bd l x hx; omega]
      simpa using h0
  · rw [if_neg h1]
    by_cases h2 : (l.length : Int) ≤ p
    · rw [if_pos h2]
      by_cases h0 : p = l.length
      · rw [yes (by rw [h0]; exact edg_len l), h0]; simp
      · rw [no fun x hx => by have := edg_bd l x hx; omega]
        simpa using h0
    · rw [if_neg h2]
      obtain ⟨q, rfl⟩ : ∃ q : Nat, p = q := ⟨p.toNat, by omega⟩
      obtain ⟨e, U, V, hE, hU, h3, h4, hb, hV, _⟩ := edg_parts l q (by omega)
      rw [Int.toNat_natCast, hb]
      by_cases he : e = q
      · subst he
        rw [yes (by rw [hE]; simp)]; simp
      · rw [no fun x hx => ?_]
        · simpa using he
        · rw [hE] at hx
          rcases List.mem_append.1 hx with h | h
          · have := hU x h; omega
          · rcases List.mem_cons.1 h with rfl | h
            · omega
            · have := hV x h; omega

theorem fold_ge (p : Int) : ∀ (V : List Int) (b : Int), (∀ x ∈ V, ¬ x < p) → V.foldl (fun b e => if e < p then e else b) b = b
  | [], b, _ => rfl
  | x :: V, b, h => by
    rw [List.foldl_cons, if_neg (h x (by simp))]
    exact fold_ge p V b fun y hy => h y (by simp [hy])

theorem back_eq (l : List UInt8) (p : Int) : backE l p = backL (edg l) p := by
  unfold backE backL
  by_cases h1 : p ≤ 0
  · rw [if_pos h1, fold_ge p _ _ fun x hx => by have := edg_bd l x hx; omega]
  · rw [if_neg h1]
    by_cases h2 : (l.length : Int) < p
    · rw [if_pos h2]
      unfold edg
      rw [List.foldl_append, List.foldl_cons, List.foldl_nil, if_pos h2]
    · rw [if_neg h2]
      obtain ⟨e, U, V, hE, hU, h3, h4, hb, hV, _⟩ := edg_parts l (p.toNat - 1) (by omega)
      rw [hb, hE, List.foldl_append, List.foldl_cons, if_pos (by omega), fold_ge p V _ fun x hx => by have := hV x hx; omega]

theorem find_gt (p : Int) (U W : List Int) (h : ∀ x ∈ U, ¬ p < x) : (U ++ W).find? (fun e => decide (p < e)) = W.find? (fun e => decide (p < e)) := by
  rw [List.find?_append]
  have : U.find? (fun e => decide (p < e)) = none := List.find?_eq_none.2 fun x hx => by simpa using h x hx
  rw [this]; simp

theorem on_eq (l : List UInt8) (p : Int) : onE l p = onL (edg l) p l.length := by
  unfold onE onL
  by_cases h1 : p < 0
  · obtain ⟨R, hR⟩ := edg_head l
    rw [if_pos h1, hR, List.find?_cons, decide_eq_true h1]; rfl
  · rw [if_neg h1]
    by_cases h2 : (l.length : Int) ≤ p
    · rw [if_pos h2, List.find?_eq_none.2 fun x hx => by have := edg_bd l x hx; simp; omega]; rfl
    · rw [if_neg h2]
      obtain ⟨q, rfl⟩ : ∃ q : Nat, p = q := ⟨p.toNat, by omega⟩
      obtain ⟨e, U, V, hE, hU, h3, h4, hb, hV, R, hR⟩ := edg_parts l q (by omega)
      rw [Int.toNat_natCast, hb, hE, find_gt _ _ _ fun x hx => by have := hU x hx; omega, List.find?_cons, decide_eq_false (by omega), hR]
      simp only []
      rw [List.find?_cons, decide_eq_true (by omega)]
      simp
end Go.Proofs.YtflehkdijfhmgaaDoor
