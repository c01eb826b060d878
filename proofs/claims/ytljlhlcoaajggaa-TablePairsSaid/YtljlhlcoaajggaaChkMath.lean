import Derived.Test.YtljlhlcoaajggaaRleMath
namespace Go.Proofs.Ytljlhlcoaajggaa

theorem rlA_rep : ∀ (n b c : Nat) (o : List Tr), rlA b o (List.replicate (n + 1) c) = jn o (b, b + n, c)
  | 0, b, c, o => rfl
  | n + 1, b, c, o => by
    rw [List.replicate_succ']
    rw [rlA_snoc, rlA_rep n b c o, List.length_replicate, jn_two]
/-- Pieces: how many, and their class. -/
def pcs (ps : List (Nat × Nat)) : List Nat := ps.flatMap fun p => List.replicate p.1 p.2
def rlP (b : Nat) (o : List Tr) : List (Nat × Nat) → List Tr
  | [] => o
  | p :: ps => rlP (b + p.1) (if p.1 = 0 then o else jn o (b, b + (p.1 - 1), p.2)) ps
theorem rlA_pcs : ∀ (ps : List (Nat × Nat)) (b : Nat) (o : List Tr), rlA b o (pcs ps) = rlP b o ps
  | [], _, _ => rfl
  | p :: ps, b, o => by
    show rlA b o (List.replicate p.1 p.2 ++ pcs ps) = _
    rw [rlA_app, List.length_replicate, rlA_pcs ps]
    show _ = rlP (b + p.1) (if p.1 = 0 then o else jn o (b, b + (p.1 - 1), p.2)) ps
    by_cases h : p.1 = 0
    · rw [if_pos h, h]; rfl
    · rw [if_neg h]
      have e : p.1 = (p.1 - 1) + 1 := by omega
      rw [show List.replicate p.1 p.2 = List.replicate ((p.1 - 1) + 1) p.2 by rw [← e], rlA_rep]
/-- A list in pieces of 128. -/
def chk : Nat → List Nat → List (List Nat)
  | 0, _ => []
  | m + 1, C => C.take 128 :: chk m (C.drop 128)
def ok128 (F : List (List Nat)) : Prop := ∀ b ∈ F, b.length = 128
theorem flat_len : ∀ (F : List (List Nat)), ok128 F → F.flatten.length = 128 * F.length
  | [], _ => rfl
  | b :: F, h => by
    rw [List.flatten_cons, List.length_append, h b (by simp), flat_len F (fun c hc => h c (by simp [hc])), List.length_cons]
    omega
theorem chk_flat : ∀ (F : List (List Nat)), ok128 F → chk F.length F.flatten = F
  | [], _ => rfl
  | b :: F, h => by
    have hb := h b (by simp)
    show (b ++ F.flatten).take 128 :: chk F.length ((b ++ F.flatten).drop 128) = _
    rw [← hb, List.take_left, List.drop_left, chk_flat F (fun c hc => h c (by simp [hc]))]
theorem flat_one {F G : List (List Nat)} (hF : ok128 F) (hG : ok128 G) (h : F.flatten = G.flatten) : F = G := by
  have hl : F.length = G.length := by
    have h1 := flat_len F hF
    have h2 := flat_len G hG
    rw [h] at h1
    omega
  rw [← chk_flat F hF, ← chk_flat G hG, h, hl]
theorem flat_get : ∀ (F : List (List Nat)) (r : Nat), ok128 F → r < 128 * F.length → ∃ b, F[r / 128]? = some b ∧ b[r % 128]? = F.flatten[r]?
  | [], r, _, h => by simp at h
  | b :: F, r, h, hr => by
    have hb := h b (by simp)
    rw [List.flatten_cons]
    by_cases c : r < 128
    · refine ⟨b, ?_, ?_⟩
      · rw [Nat.div_eq_of_lt c]; rfl
      · rw [Nat.mod_eq_of_lt c, List.getElem?_append_left (by omega)]
    · have hr2 : r - 128 < 128 * F.length := by rw [List.length_cons] at hr; omega
      obtain ⟨d, h1, h2⟩ := flat_get F (r - 128) (fun c hc => h c (by simp [hc])) hr2
      refine ⟨d, ?_, ?_⟩
      · rw [show r / 128 = (r - 128) / 128 + 1 by omega]; exact h1
      · rw [show r % 128 = (r - 128) % 128 by omega, h2, List.getElem?_append_right (by omega), hb]
/-- A number more. -/
def stp (s : List (List Nat) × List Nat) (c : Nat) : List (List Nat) × List Nat := if s.2.length + 1 = 128 then (s.1 ++ [s.2 ++ [c]], []) else (s.1, s.2 ++ [c])
theorem stp_all (s : List (List Nat) × List Nat) (c : Nat) : (stp s c).1.flatten ++ (stp s c).2 = (s.1.flatten ++ s.2) ++ [c] := by
  unfold stp
  split
  · simp
  · simp
theorem stp_ok (s : List (List Nat) × List Nat) (c : Nat) (h : ok128 s.1) (h2 : s.2.length < 128) : ok128 (stp s c).1 ∧ (stp s c).2.length < 128 := by
  unfold stp
  split
  · rename_i h3
    refine ⟨fun b hb => ?_, by simp⟩
    rcases List.mem_append.1 hb with hb | hb
    · exact h b hb
    · simp at hb; subst hb; rw [List.length_append]; exact h3
  · rename_i h3
    refine ⟨h, ?_⟩
    show (s.2 ++ [c]).length < 128
    rw [List.length_append]
    simp
    omega
/-- How many of a class: the unlike blocks counted once. -/
theorem cnt_flat (c : Nat) : ∀ F : List (List Nat), F.flatten.count c = (F.map (List.count c)).sum
  | [] => rfl
  | b :: F => by rw [List.flatten_cons, List.count_append, cnt_flat c F]; rfl
theorem cnt_fst (c : Nat) (F : List (List Nat)) : ((fst F).map fun k => ((uq F)[k]?.getD []).count c).sum = F.flatten.count c := by
  rw [cnt_flat]
  unfold fst
  rw [List.map_map]
  congr 1
  apply List.map_congr_left
  intro b hb
  show ((uq F)[ix F b]?.getD []).count c = _
  rw [ix_get hb]; rfl
/-- A number's bytes. -/
def vnF : Nat → Nat → List Nat
  | 0, _ => []
  | f + 1, n => if 128 ≤ n then (n % 128 + 128) :: vnF f (n / 128) else [n]
def vn (n : Nat) : List Nat := vnF (n + 1) n
theorem vnF_any : ∀ (f g n : Nat), n < f → n < g → vnF f n = vnF g n
  | 0, _, n, h, _ => by omega
  | _ + 1, 0, n, _, h => by omega
  | f + 1, g + 1, n, h1, h2 => by
    unfold vnF
    split
    · rw [vnF_any f g (n / 128) (by omega) (by omega)]
    · rfl
theorem vn_more (n : Nat) (h : 128 ≤ n) : vn n = (n % 128 + 128) :: vn (n / 128) := by
  unfold vn
  conv => lhs; unfold vnF
  rw [if_pos h, vnF_any n (n / 128 + 1) (n / 128) (by omega) (by omega)]
theorem vn_last (n : Nat) (h : ¬ 128 ≤ n) : vn n = [n] := by
  unfold vn vnF
  rw [if_neg h]
end Go.Proofs.Ytljlhlcoaajggaa
