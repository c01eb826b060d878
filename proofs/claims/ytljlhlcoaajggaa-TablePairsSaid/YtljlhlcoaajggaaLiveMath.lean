/- What the closed tables of live are. -/
import Derived.Test.YtljlhlcoaajggaaEqual
namespace Go.Proofs.Ytljlhlcoaajggaa

def lvI : List Rk := [(768, 879, 2), (97, 122, 1)]
def lvA : List Tr := [(97, 122, 1), (768, 879, 2)]
theorem lv_bo : bo lvI 0 = none := by decide
theorem lv_srt : srt [] lvI = lvA := by decide
theorem lv_ris : Ris 0 lvA := by unfold lvA Ris Ris Ris; decide
def lvP : List (Nat × Nat) := [(97, 0), (26, 1), (645, 0), (112, 2), (1113232, 0)]
theorem lv_cl : clA 0 lvA = pcs lvP := by
  have e : clq 0 0 lvA = List.replicate 97 0 ++ (List.replicate 26 1 ++ (List.replicate 645 0 ++ (List.replicate 112 2 ++ []))) := rfl
  unfold clA
  rw [e]
  simp only [List.length_append, List.length_replicate, List.length_nil]
  unfold lvP pcs
  simp only [List.flatMap_cons, List.flatMap_nil, List.append_assoc, List.append_nil]
theorem lv_rl : rlA 0 [] (clA 0 lvA) = [(0, 96, 0), (97, 122, 1), (123, 767, 0), (768, 879, 2), (880, 1114111, 0)] := by
  rw [lv_cl, rlA_pcs]
  decide
theorem lv_rg : rgs 0 (clA 0 lvA) = lvA := by
  unfold rgs
  rw [lv_rl]
  decide
def lvB : List Nat := [0, 2, 97, 25, 1, 133, 5, 111, 2]
theorem lv_en : enb 0 lvA = lvB := by decide
theorem cz_rep (cl : Int) (n c : Nat) : cz cl (List.replicate n c) = if (c : Int) = cl then n else 0 := by
  unfold cz
  rw [List.countP_replicate]
  by_cases h : (c : Int) = cl
  · rw [if_pos (decide_eq_true h), if_pos h]
  · rw [if_neg (by simpa using h), if_neg h]
theorem cz_pcs (cl : Int) : ∀ ps : List (Nat × Nat), cz cl (pcs ps) = (ps.map fun p => if (p.2 : Int) = cl then p.1 else 0).sum
  | [] => rfl
  | p :: ps => by
    have ih := cz_pcs cl ps
    have e : cz cl (pcs (p :: ps)) = cz cl (List.replicate p.1 p.2) + cz cl (pcs ps) := by
      unfold cz
      rw [← List.countP_append]; rfl
    rw [e, cz_rep, ih]; rfl
/-- A number's class among pieces. -/
def gp : List (Nat × Nat) → Nat → Nat
  | [], _ => 0
  | p :: ps, i => if i < p.1 then p.2 else gp ps (i - p.1)
theorem pcs_get : ∀ (ps : List (Nat × Nat)) (i : Nat), (pcs ps).getD i 0 = gp ps i
  | [], i => rfl
  | p :: ps, i => by
    have ih := pcs_get ps (i - p.1)
    show (List.replicate p.1 p.2 ++ pcs ps).getD i 0 = _
    unfold gp
    unfold List.getD at ih ⊢
    by_cases h : i < p.1
    · rw [if_pos h, List.getElem?_append_left (by rw [List.length_replicate]; exact h), List.getElem?_replicate, if_pos h]; rfl
    · rw [if_neg h, List.getElem?_append_right (by rw [List.length_replicate]; omega), List.length_replicate]
      exact ih
theorem lv_cz : cz 1 (clA 0 lvA) = 26 := by
  rw [lv_cl, cz_pcs]
  decide
theorem lv_98 : (clA 0 lvA).getD 98 0 = 1 := by
  rw [lv_cl, pcs_get]
  decide
theorem lv_769 : (clA 0 lvA).getD 769 0 = 2 := by
  rw [lv_cl, pcs_get]
  decide
theorem uqF_rep {u : List (List Nat)} {b : List Nat} (h : b ∈ u) : ∀ n, uqF u (List.replicate n b) = u
  | 0 => rfl
  | n + 1 => by
    rw [List.replicate_succ]
    show uqF (if b ∈ u then u else u ++ [b]) _ = u
    rw [if_pos h]
    exact uqF_rep h n
def lvb0 : List Nat := List.replicate 97 0 ++ (List.replicate 26 1 ++ List.replicate 5 0)
def lvz : List Nat := List.replicate 128 0
def lvb6 : List Nat := List.replicate 112 2 ++ List.replicate 16 0
def lvG : List (List Nat) := lvb0 :: (List.replicate 5 lvz ++ (lvb6 :: List.replicate 8697 lvz))
theorem flat_rep (n m c : Nat) : (List.replicate n (List.replicate m c)).flatten = List.replicate (n * m) c := by
  rw [List.flatten_replicate_replicate]
theorem lv_flat : lvG.flatten = clA 0 lvA := by
  rw [lv_cl]
  unfold lvG lvz
  rw [List.flatten_cons, List.flatten_append, List.flatten_cons, flat_rep, flat_rep]
  unfold lvb0 lvb6 lvP pcs
  simp only [List.flatMap_cons, List.flatMap_nil, List.append_assoc, List.append_nil]
  rw [← List.append_assoc (List.replicate 5 0), List.replicate_append_replicate, List.replicate_append_replicate]
theorem lv_l0 : lvb0.length = 128 := by unfold lvb0; simp only [List.length_append, List.length_replicate]
theorem lv_l6 : lvb6.length = 128 := by unfold lvb6; simp only [List.length_append, List.length_replicate]
theorem lv_lz : lvz.length = 128 := by unfold lvz; simp only [List.length_replicate]
theorem lv_ok : ok128 lvG := by
  intro b hb
  unfold lvG at hb
  rcases List.mem_cons.1 hb with hb | hb
  · rw [hb]; exact lv_l0
  · rcases List.mem_append.1 hb with hb | hb
    · rw [List.eq_of_mem_replicate hb]; exact lv_lz
    · rcases List.mem_cons.1 hb with hb | hb
      · rw [hb]; exact lv_l6
      · rw [List.eq_of_mem_replicate hb]; exact lv_lz
set_option maxRecDepth 100000 in
theorem lv_n1 : lvz ∉ [lvb0] := by decide
set_option maxRecDepth 100000 in
theorem lv_n2 : lvb6 ∉ [lvb0, lvz] := by decide
theorem lv_uq : (uq lvG).length = 3 := by
  have h1 : ∀ (b : List Nat) (G : List (List Nat)), uqF [] (b :: G) = uqF [b] G := fun b G => by
    show uqF (if b ∈ ([] : List (List Nat)) then [] else [] ++ [b]) G = _
    rw [if_neg (by simp)]; rfl
  have h2 : ∀ (u : List (List Nat)) (b : List Nat) (G : List (List Nat)), b ∉ u → uqF u (b :: G) = uqF (u ++ [b]) G := fun u b G h => by
    show uqF (if b ∈ u then u else u ++ [b]) G = _
    rw [if_neg h]
  have e1 : uqF [] lvG = uqF [lvb0] (List.replicate 5 lvz ++ (lvb6 :: List.replicate 8697 lvz)) := h1 _ _
  have e2 : uqF [lvb0] (List.replicate 5 lvz) = [lvb0, lvz] := by
    rw [List.replicate_succ, h2 _ _ _ lv_n1]
    exact uqF_rep (by simp) 4
  have e3 : uqF [lvb0, lvz] (lvb6 :: List.replicate 8697 lvz) = [lvb0, lvz, lvb6] := by
    rw [h2 _ _ _ lv_n2]
    exact uqF_rep (by simp) 8697
  unfold uq
  rw [e1, uqF_app, e2, e3]
  rfl
theorem lv_ldr : ldr lvB = 0 := rfl
theorem lv_ldR : ldR lvB = some lvA := by decide
theorem lv_lds : lds lvB = some lvA := by
  unfold lds
  rw [lv_ldR]
  dsimp only
  rw [lv_ldr, lv_rg, if_pos lv_en]
end Go.Proofs.Ytljlhlcoaajggaa
