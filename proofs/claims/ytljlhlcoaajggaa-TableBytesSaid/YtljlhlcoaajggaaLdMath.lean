/- What the document's Load takes is what Load takes. -/
import Derived.Test.YtljlhlcoaajggaaLiveAll
import Derived.Test.YtljlhlcoaajggaaLoad
namespace Go.Proofs.Ytljlhlcoaajggaa

/-- A number in as few bytes as can be, and what is left. -/
def tkq : Nat → List Nat → Option (Nat × List Nat)
  | 0, _ => none
  | _ + 1, [] => none
  | f + 1, c :: r => if c < 128 then some (c, r) else match tkq f r with
    | none => none
    | some (n, r') => if n = 0 then none else some (c % 128 + 128 * n, r')
def tk (c : List Nat) : Option (Nat × List Nat) := tkq 4 c
theorem tkq_vn : ∀ (f n : Nat) (c : List Nat), n < 128 ^ (f + 1) → tkq (f + 1) (vn n ++ c) = some (n, c)
  | f, n, c, h => by
    by_cases h1 : 128 ≤ n
    · cases f with
      | zero => simp at h; omega
      | succ f =>
        have ih := tkq_vn f (n / 128) c (by rw [Nat.pow_succ] at h; omega)
        rw [vn_more n h1]
        show (if n % 128 + 128 < 128 then _ else match tkq (f + 1) (vn (n / 128) ++ c) with | none => none | some (n', r') => if n' = 0 then none else some ((n % 128 + 128) % 128 + 128 * n', r')) = _
        rw [if_neg (by omega), ih]
        show (if n / 128 = 0 then _ else _) = _
        rw [if_neg (by omega)]
        have : (n % 128 + 128) % 128 + 128 * (n / 128) = n := by omega
        rw [this]
    · rw [vn_last n h1]
      show (if n < 128 then _ else _) = _
      rw [if_pos (by omega)]; rfl
theorem tkq_out : ∀ (f : Nat) (c : List Nat) (v : Nat) (r : List Nat), tkq f c = some (v, r) → (∀ x ∈ c, x < 256) → c = vn v ++ r
  | 0, _, _, _, h, _ => by simp [tkq] at h
  | _ + 1, [], _, _, h, _ => by simp [tkq] at h
  | f + 1, x :: c, v, r, h, h8 => by
    have hx := h8 x (by simp)
    unfold tkq at h
    by_cases h1 : x < 128
    · rw [if_pos h1] at h
      simp only [Option.some.injEq, Prod.mk.injEq] at h
      obtain ⟨rfl, rfl⟩ := h
      rw [vn_last _ (by omega)]; rfl
    · rw [if_neg h1] at h
      cases hq : tkq f c with
      | none => rw [hq] at h; simp at h
      | some y =>
        obtain ⟨n, r'⟩ := y
        rw [hq] at h
        dsimp only at h
        by_cases hn : n = 0
        · rw [if_pos hn] at h; simp at h
        · rw [if_neg hn] at h
          simp only [Option.some.injEq, Prod.mk.injEq] at h
          obtain ⟨rfl, rfl⟩ := h
          have ih := tkq_out f c n r' hq (fun y hy => h8 y (by simp [hy]))
          rw [vn_more _ (by omega), ih, show (x % 128 + 128 * n) % 128 + 128 = x by omega, show (x % 128 + 128 * n) / 128 = n by omega]
          rfl
theorem tkq_lt : ∀ (f : Nat) (c : List Nat) (v : Nat) (r : List Nat), tkq f c = some (v, r) → v < 128 ^ f ∧ ∃ k, 0 < k ∧ k ≤ c.length ∧ r = c.drop k
  | 0, _, _, _, h => by simp [tkq] at h
  | _ + 1, [], _, _, h => by simp [tkq] at h
  | f + 1, x :: c, v, r, h => by
    unfold tkq at h
    by_cases h1 : x < 128
    · rw [if_pos h1] at h
      simp only [Option.some.injEq, Prod.mk.injEq] at h
      obtain ⟨rfl, rfl⟩ := h
      refine ⟨?_, 1, by omega, by simp, rfl⟩
      have : 0 < 128 ^ f := Nat.pow_pos (by omega)
      rw [Nat.pow_succ]; omega
    · rw [if_neg h1] at h
      cases hq : tkq f c with
      | none => rw [hq] at h; simp at h
      | some y =>
        obtain ⟨n, r'⟩ := y
        rw [hq] at h
        dsimp only at h
        by_cases hn : n = 0
        · rw [if_pos hn] at h; simp at h
        · rw [if_neg hn] at h
          simp only [Option.some.injEq, Prod.mk.injEq] at h
          obtain ⟨rfl, rfl⟩ := h
          obtain ⟨h2, k, h3, h4, h5⟩ := tkq_lt f c n r' hq
          refine ⟨by rw [Nat.pow_succ]; omega, k + 1, by omega, by simp; omega, ?_⟩
          rw [h5]; rfl
theorem rdn_vn (n : Nat) (c : List Nat) (h : n < 2097152) : rdn (vn n ++ c) = (n, c) := by
  by_cases h1 : 128 ≤ n
  · rw [vn_more n h1]
    by_cases h2 : 128 ≤ n / 128
    · rw [vn_more _ h2, vn_last (n / 128 / 128) (by omega)]
      have e : ∀ (a b d : Nat) (r : List Nat), rdn (a :: b :: d :: r) = if a < 128 then (a, b :: d :: r) else if b < 128 then (a % 128 + b * 128, d :: r) else if d < 128 then (a % 128 + b % 128 * 128 + d * 16384, r) else (0, []) := fun _ _ _ _ => rfl
      show rdn ((n % 128 + 128) :: (n / 128 % 128 + 128) :: (n / 128 / 128) :: c) = _
      rw [e]
      rw [if_neg (by omega), if_neg (by omega), if_pos (by omega)]
      congr 1; omega
    · rw [vn_last _ h2]
      have e : ∀ (a b : Nat) (r : List Nat), b < 128 → rdn (a :: b :: r) = if a < 128 then (a, b :: r) else (a % 128 + b * 128, r) := fun a b r h => by
        unfold rdn
        dsimp only
        rw [if_pos h]
      show rdn ((n % 128 + 128) :: (n / 128) :: c) = _
      rw [e _ _ _ (by omega)]
      rw [if_neg (by omega)]
      congr 1; omega
  · rw [vn_last _ h1]
    show rdn (n :: c) = _
    unfold rdn
    dsimp only
    rw [if_pos (by omega)]
theorem vn_ne (n : Nat) : vn n ≠ [] := by
  by_cases h1 : 128 ≤ n
  · rw [vn_more n h1]; simp
  · rw [vn_last n h1]; simp
/-- Load reads the ranges that Bytes has written. -/
theorem ldl_enL : ∀ (L : List Tr) (f nx : Nat), (enL nx L).length ≤ f → Ris nx L → ldl f nx (enL nx L) = some L
  | [], f, nx, _, _ => by cases f <;> rfl
  | g :: L, 0, nx, h, _ => by
    have : enL nx (g :: L) = [] := List.length_eq_zero_iff.1 (by omega)
    unfold enL at this
    have h2 := vn_ne (g.1 - nx)
    simp [h2] at this
  | g :: L, f + 1, nx, h, hR => by
    obtain ⟨h1, h2, h3, h4, h5⟩ := hR
    have e : enL nx (g :: L) = vn (g.1 - nx) ++ (vn (g.2.1 - g.1) ++ (g.2.2 :: enL (g.2.1 + 1) L)) := rfl
    have hne : enL nx (g :: L) ≠ [] := by rw [e]; simp [vn_ne]
    have r1 : rdn (enL nx (g :: L)) = (g.1 - nx, vn (g.2.1 - g.1) ++ (g.2.2 :: enL (g.2.1 + 1) L)) := by rw [e]; exact rdn_vn _ _ (by omega)
    have r2 : rdn (vn (g.2.1 - g.1) ++ (g.2.2 :: enL (g.2.1 + 1) L)) = (g.2.1 - g.1, g.2.2 :: enL (g.2.1 + 1) L) := rdn_vn _ _ (by omega)
    have hl : (enL (g.2.1 + 1) L).length ≤ f := by rw [e] at h; simp at h; omega
    have ih := ldl_enL L f (g.2.1 + 1) hl h5
    rw [ldl_step hne, r1]
    dsimp only
    rw [r2]
    dsimp only
    rw [if_neg (by omega), show nx + (g.1 - nx) + (g.2.1 - g.1) + 1 = g.2.1 + 1 by omega, show nx + (g.1 - nx) = g.1 by omega, show g.1 + (g.2.1 - g.1) = g.2.1 by omega]
    show Option.map _ (ldl f (g.2.1 + 1) (enL (g.2.1 + 1) L)) = _
    rw [ih]; rfl
theorem ldR_enb (r : Nat) (L : List Tr) (hR : Ris 0 L) : ldR (enb r L) = some L := by
  have hl := ris_len L 0 (by omega) hR
  have e : rdn (enb r L).tail = (L.length, enL 0 L) := rdn_vn _ _ (by omega)
  unfold ldR
  rw [e]
  exact ldl_enL L _ 0 (Nat.le_refl _) hR

/-- None has the rest's class; none goes on where one of its class has ended. -/
def Nr (r : Nat) : Option Nat → Nat → List Tr → Prop
  | _, _, [] => True
  | p, nx, g :: L => g.2.2 ≠ r ∧ ¬ (g.1 = nx ∧ p = some g.2.2) ∧ Nr r (some g.2.2) (g.2.1 + 1) L
/-- What the document's Load reads. -/
def rdL (r : Nat) : Nat → Nat → Option Nat → List Nat → Option (List Tr)
  | 0, _, _, c => if c = [] then some [] else none
  | n + 1, nx, p, c => match tk c with
    | none => none
    | some (g, c1) => match tk c1 with
      | none => none
      | some (m, c2) => match c2 with
        | [] => none
        | k :: c3 => if 1114111 < nx + g + m then none else if k = r ∨ (g = 0 ∧ p = some k) then none else (rdL r n (nx + g + m + 1) (some k) c3).map ((nx + g, nx + g + m, k) :: ·)
def rl (b : List Nat) : Option (List Tr) := match b with
  | [] => none
  | r :: c => match tk c with
    | none => none
    | some (n, c1) => rdL r n 0 none c1
theorem rdL_enL (r : Nat) : ∀ (L : List Tr) (nx : Nat) (p : Option Nat), Ris nx L → Nr r p nx L → rdL r L.length nx p (enL nx L) = some L
  | [], nx, p, _, _ => rfl
  | g :: L, nx, p, hR, hN => by
    obtain ⟨h1, h2, h3, h4, h5⟩ := hR
    obtain ⟨n1, n2, n3⟩ := hN
    have e : enL nx (g :: L) = vn (g.1 - nx) ++ (vn (g.2.1 - g.1) ++ (g.2.2 :: enL (g.2.1 + 1) L)) := rfl
    have t1 : tk (enL nx (g :: L)) = some (g.1 - nx, vn (g.2.1 - g.1) ++ (g.2.2 :: enL (g.2.1 + 1) L)) := by rw [e]; exact tkq_vn 3 _ _ (show _ < 268435456 by omega)
    have t2 : tk (vn (g.2.1 - g.1) ++ (g.2.2 :: enL (g.2.1 + 1) L)) = some (g.2.1 - g.1, g.2.2 :: enL (g.2.1 + 1) L) := tkq_vn 3 _ _ (show _ < 268435456 by omega)
    have ih := rdL_enL r L (g.2.1 + 1) (some g.2.2) h5 n3
    show (match tk (enL nx (g :: L)) with | none => none | some (a, c1) => match tk c1 with | none => none | some (m, c2) => match c2 with | [] => none | k :: c3 => if 1114111 < nx + a + m then none else if k = r ∨ (a = 0 ∧ p = some k) then none else (rdL r L.length (nx + a + m + 1) (some k) c3).map ((nx + a, nx + a + m, k) :: ·)) = _
    rw [t1]
    dsimp only
    rw [t2]
    dsimp only
    rw [if_neg (by omega), if_neg (fun hh => hh.elim (fun h => n1 h) (fun h => n2 ⟨by omega, h.2⟩)), show nx + (g.1 - nx) + (g.2.1 - g.1) + 1 = g.2.1 + 1 by omega, show nx + (g.1 - nx) = g.1 by omega, show g.1 + (g.2.1 - g.1) = g.2.1 by omega, ih]
    rfl
theorem rdL_out (r : Nat) : ∀ (n nx : Nat) (p : Option Nat) (c : List Nat) (L : List Tr), (∀ x ∈ c, x < 256) → rdL r n nx p c = some L → c = enL nx L ∧ L.length = n ∧ Ris nx L ∧ Nr r p nx L
  | 0, nx, p, c, L, h8, h => by
    unfold rdL at h
    by_cases hc : c = []
    · rw [if_pos hc] at h
      simp only [Option.some.injEq] at h
      subst h; subst hc
      exact ⟨rfl, rfl, trivial, trivial⟩
    · rw [if_neg hc] at h; simp at h
  | n + 1, nx, p, c, L, h8, h => by
    unfold rdL at h
    cases ht : tk c with
    | none => rw [ht] at h; simp at h
    | some y =>
      obtain ⟨g, c1⟩ := y
      rw [ht] at h
      dsimp only at h
      have e1 := tkq_out 4 c g c1 ht h8
      have m1 : ∀ x ∈ c1, x < 256 := fun x hx => h8 x (by rw [e1]; simp [hx])
      cases ht2 : tk c1 with
      | none => rw [ht2] at h; simp at h
      | some y =>
        obtain ⟨m, c2⟩ := y
        rw [ht2] at h
        dsimp only at h
        have e2 := tkq_out 4 c1 m c2 ht2 m1
        have m2 : ∀ x ∈ c2, x < 256 := fun x hx => m1 x (by rw [e2]; simp [hx])
        cases c2 with
        | nil => simp at h
        | cons k c3 =>
          dsimp only at h
          by_cases hM : 1114111 < nx + g + m
          · rw [if_pos hM] at h; simp at h
          · rw [if_neg hM] at h
            by_cases hK : k = r ∨ (g = 0 ∧ p = some k)
            · rw [if_pos hK] at h; simp at h
            · rw [if_neg hK] at h
              cases hq : rdL r n (nx + g + m + 1) (some k) c3 with
              | none => rw [hq] at h; simp at h
              | some M =>
                rw [hq] at h
                simp only [Option.map_some, Option.some.injEq] at h
                subst h
                obtain ⟨q1, q2, q3, q4⟩ := rdL_out r n (nx + g + m + 1) (some k) c3 M (fun x hx => m2 x (by simp [hx])) hq
                refine ⟨?_, by simp [q2], ⟨by show nx ≤ nx + g; omega, by show nx + g ≤ nx + g + m; omega, by show nx + g + m ≤ _; omega, m2 k (by simp), q3⟩, fun h => hK (.inl h), fun h => hK (.inr ⟨by have h5 := h.1; dsimp only at h5; omega, h.2⟩), q4⟩
                show c = vn (nx + g - nx) ++ (vn (nx + g + m - (nx + g)) ++ (k :: enL (nx + g + m + 1) M))
                rw [show nx + g - nx = g by omega, show nx + g + m - (nx + g) = m by omega, ← q1, ← e2]
                exact e1
theorem nrAL_len (r : Nat) : ∀ (A o : List Tr), (nrA r o A).length ≤ o.length + A.length
  | [], o => by show o.length ≤ _; simp
  | g :: A, o => by
    show (if g.2.2 = r then nrA r o A else nrA r (jA o g) A).length ≤ _
    split
    · have := nrAL_len r A o; simp; omega
    · have h1 := nrAL_len r A (jA o g)
      have h2 : (jA o g).length ≤ o.length + 1 := by
        rcases List.eq_nil_or_concat o with rfl | ⟨Q, z, rfl⟩
        · simp [jA_nil]
        · rw [List.concat_eq_append, jA_snoc]
          split <;> simp
      simp; omega
/-- The last one's class, and where it ends. -/
def lcl (o : List Tr) : Option Nat := o.getLast?.map fun z => z.2.2
theorem nr_of_len (r : Nat) : ∀ (A o : List Tr), (nrA r o A).length = o.length + A.length → Nr r (lcl o) (endR 0 o) A
  | [], _, _ => trivial
  | g :: A, o, h => by
    have e : nrA r o (g :: A) = if g.2.2 = r then nrA r o A else nrA r (jA o g) A := rfl
    rw [e] at h
    by_cases hc : g.2.2 = r
    · rw [if_pos hc] at h
      have := nrAL_len r A o
      simp at h; omega
    · rw [if_neg hc] at h
      have h1 := nrAL_len r A (jA o g)
      rcases List.eq_nil_or_concat o with rfl | ⟨Q, z, rfl⟩
      · have ih := nr_of_len r A (jA [] g) (by rw [h, jA_nil]; simp; omega)
        exact ⟨hc, fun h => by simp [lcl] at h, ih⟩
      · rw [List.concat_eq_append] at h h1 ⊢
        rw [jA_snoc] at h h1
        by_cases hz : z.2.1 + 1 = g.1 ∧ z.2.2 = g.2.2
        · rw [if_pos hz] at h h1
          simp at h h1; omega
        · rw [if_neg hz] at h
          have ih := nr_of_len r A (Q ++ [z, g]) (by rw [h]; simp; omega)
          have e3 : Q ++ [z, g] = (Q ++ [z]) ++ [g] := by simp
          rw [e3, endR_snoc] at ih
          refine ⟨hc, fun h => hz ?_, ?_⟩
          · rw [endR_snoc] at h
            refine ⟨h.1.symm, ?_⟩
            have h5 := h.2
            simp [lcl] at h5
            exact h5
          · have e4 : lcl ((Q ++ [z]) ++ [g]) = some g.2.2 := by simp [lcl]
            rw [e4] at ih
            exact ih
theorem nrA_of_nr (r : Nat) : ∀ (A o : List Tr), Nr r (lcl o) (endR 0 o) A → nrA r o A = o ++ A
  | [], o, _ => by show o = _; simp
  | g :: A, o, h => by
    obtain ⟨h1, h2, h3⟩ := h
    have e : nrA r o (g :: A) = if g.2.2 = r then nrA r o A else nrA r (jA o g) A := rfl
    have ej : jA o g = o ++ [g] := by
      rcases List.eq_nil_or_concat o with rfl | ⟨Q, z, rfl⟩
      · rfl
      · rw [List.concat_eq_append] at h2 ⊢
        rw [jA_snoc, if_neg, List.append_assoc]
        · rfl
        · intro hz
          refine h2 ⟨?_, ?_⟩
          · rw [endR_snoc]; exact hz.1.symm
          · simp [lcl]; exact hz.2
    rw [e, if_neg h1, ej, nrA_of_nr r A (o ++ [g]) (by rw [endR_snoc, show lcl (o ++ [g]) = some g.2.2 by simp [lcl]]; exact h3)]
    simp
/-- The ranges of a table are in their normal form. -/
theorem rgs_nr (r : Nat) (hr : r < 256) (C : List Nat) (h : C.length = 1114112) (hc : ∀ c ∈ C, c < 256) : Nr r none 0 (rgs r C) := by
  have h1 := nrA_rgs r hr (rgs r C) (rgs_ris r C h hc)
  rw [clA_rgs r C h hc] at h1
  exact nr_of_len r (rgs r C) [] (by rw [h1]; simp)
theorem nr_rgs (r : Nat) (hr : r < 256) (L : List Tr) (hR : Ris 0 L) (hN : Nr r none 0 L) : rgs r (clA r L) = L := by
  rw [← nrA_rgs r hr L hR, nrA_of_nr r L [] hN]; rfl
/-- What the document's Load takes Load takes, and it is the same. -/
theorem rl_some (b : List Nat) (h8 : ∀ c ∈ b, c < 256) (L : List Tr) (h : rl b = some L) : lds b = some L ∧ Ris 0 L ∧ Nr (ldr b) none 0 L ∧ b = enb (ldr b) L ∧ rgs (ldr b) (clA (ldr b) L) = L := by
  cases b with
  | nil => simp [rl] at h
  | cons r c =>
    unfold rl at h
    dsimp only at h
    have m0 : ∀ x ∈ c, x < 256 := fun x hx => h8 x (by simp [hx])
    cases ht : tk c with
    | none => rw [ht] at h; simp at h
    | some y =>
      obtain ⟨n, c1⟩ := y
      rw [ht] at h
      dsimp only at h
      have e1 := tkq_out 4 c n c1 ht m0
      obtain ⟨q1, q2, q3, q4⟩ := rdL_out r n 0 none c1 L (fun x hx => m0 x (by rw [e1]; simp [hx])) h
      have e : r :: c = enb r L := by unfold enb; rw [q2, ← q1, ← e1]
      have hg := nr_rgs r (h8 r (by simp)) L q3 q4
      have el : ldr (r :: c) = r := rfl
      rw [el]
      refine ⟨?_, q3, q4, e, hg⟩
      have hl : ldR (r :: c) = some L := by rw [e]; exact ldR_enb r L q3
      unfold lds
      rw [hl]
      dsimp only
      rw [el, hg, if_pos e.symm]
/-- What the document's Load does not take Load does not take. -/
theorem rl_none (b : List Nat) (h8 : ∀ c ∈ b, c < 256) (hR : ∀ L, ldR b = some L → Ris 0 L) (h : rl b = none) : lds b = none := by
  cases hl : ldR b with
  | none => unfold lds; rw [hl]
  | some L =>
    unfold lds
    rw [hl]
    dsimp only
    rw [if_neg]
    intro he
    cases b with
    | nil => unfold enb at he; simp at he
    | cons r c =>
      have el : ldr (r :: c) = r := rfl
      rw [el] at he
      have hr := h8 r (by simp)
      have hRL := hR L hl
      have hcl := clA_len r L hRL
      have hc2 := clA_256 r L hr hRL
      obtain ⟨M, hM⟩ : ∃ M, M = rgs r (clA r L) := ⟨_, rfl⟩
      have r1 : Ris 0 M := by rw [hM]; exact rgs_ris r _ hcl hc2
      have r2 : Nr r none 0 M := by rw [hM]; exact rgs_nr r hr _ hcl hc2
      rw [← hM] at he
      have hlen := ris_len M 0 (by omega) r1
      have h5 : rl (enb r M) = some M := by
        show (match tk (vn M.length ++ enL 0 M) with | none => none | some (n, c1) => rdL r n 0 none c1) = _
        have t1 : tk (vn M.length ++ enL 0 M) = some (M.length, enL 0 M) := tkq_vn 3 _ _ (show _ < 268435456 by omega)
        rw [t1]
        exact rdL_enL r M 0 none r1 r2
      rw [he, h] at h5
      cases h5
end Go.Proofs.Ytljlhlcoaajggaa
