/- Letters by a machine of classes: where the first letter of a row of classes ends, and what the classes of two runes say of the place between them; a row of runes in letters. Mathematics alone. -/
import Derived.Test.YtffbdnlfknomnaaDoorREdge
namespace Go.Proofs.YtffbdnlfknomnaaDoor.Wt

def galone (c : Int) : Bool := c == 1 || c == 2 || c == 3
def gsyl (a b : Int) : Bool := if a = 8 then (b == 8 || b == 9 || b == 11) else if a = 9 ∨ a = 11 then (b == 9 || b == 10) else if a = 10 then b == 10 else false
/-- What two classes say: 0 a bound, 1 none, 2 it hangs. -/
def gbt (a b : Int) : Int :=
  if a = 1 ∧ b = 2 then 1 else if galone a = true ∨ galone b = true then 0 else if b = 4 ∨ b = 5 ∨ b = 6 ∨ a = 7 then 1 else if gsyl a b = true then 1 else if a = 5 ∧ b = 12 ∨ a = 13 ∧ b = 13 then 2 else 0
/-- The next state: classes, 14 a joiner behind a picture, 15 a second flag. -/
def nx (q b : Int) : Option Int :=
  if q = 12 then (if b = 4 then some 12 else if b = 5 then some 14 else if gbt 12 b = 1 then some b else none)
  else if q = 13 then (if b = 13 then some 15 else if gbt 13 b = 1 then some b else none)
  else if q = 14 then (if b = 12 then some 12 else if gbt 5 b = 1 then some b else none)
  else if q = 15 then (if gbt 13 b = 1 then some b else none)
  else if gbt q b = 1 then some b else none
/-- How many runes more belong to the letter. -/
def gr : Int → List Int → Nat
  | _, [] => 0
  | q, b :: L => match nx q b with
    | none => 0
    | some q' => gr q' L + 1
def fstC : List Int → Nat
  | [] => 0
  | c :: L => gr c L + 1
/-- Plain: what stands further ahead has no part. -/
def pl (a : Int) : List Int → Nat
  | [] => 0
  | b :: L => if gbt a b = 1 then gr b L + 1 else 0
theorem gr_le : ∀ (L : List Int) (q : Int), gr q L ≤ L.length
  | [], _ => Nat.le_refl _
  | b :: L, q => by
    unfold gr
    cases nx q b with
    | none => exact Nat.zero_le _
    | some q' => have := gr_le L q'; simp only [List.length_cons]; omega
theorem fstC_bd (L : List Int) (h : L ≠ []) : 1 ≤ fstC L ∧ fstC L ≤ L.length := by
  cases L with
  | nil => exact absurd rfl h
  | cons c L => have := gr_le L c; simp only [fstC, List.length_cons]; omega
theorem gr_take : ∀ (L : List Int) (q : Int) (m : Nat), gr q L ≤ m → gr q (L.take m) = gr q L
  | [], _, _, _ => by simp
  | b :: L, q, 0, h => by
    simp only [List.take_zero]
    unfold gr at h ⊢
    cases hn : nx q b with
    | none => rfl
    | some q' => rw [hn] at h; simp only [] at h; omega
  | b :: L, q, m + 1, h => by
    rw [List.take_succ_cons]
    unfold gr at h ⊢
    cases hn : nx q b with
    | none => rfl
    | some q' => rw [hn] at h; simp only [] at h ⊢; rw [gr_take L q' m (by omega)]
theorem fstC_take (L : List Int) (m : Nat) (h : fstC L ≤ m) : fstC (L.take m) = fstC L := by
  cases L with
  | nil => simp
  | cons c L =>
    cases m with
    | zero => simp only [fstC] at h; omega
    | succ m =>
      rw [List.take_succ_cons]
      simp only [fstC] at h ⊢
      rw [gr_take L c m (by omega)]
/-- A class. -/
def Cl (c : Int) : Prop := 0 ≤ c ∧ c ≤ 13
/-- The state q stands behind a rune of class a. -/
def Cs (q a : Int) : Prop := q = a ∨ q = 12 ∧ a = 4 ∨ q = 14 ∧ a = 5 ∨ q = 15 ∧ a = 13
instance (q a : Int) : Decidable (Cs q a) := by unfold Cs; infer_instance
def chk (q a b : Int) : Bool := !decide (Cs q a) || ((!decide (gbt a b = 1) || (nx q b).isSome) && (!decide (gbt a b = 0) || (nx q b).isNone) && (match nx q b with | none => true | some q' => decide (Cs q' b)))
theorem chk_all : ((List.range 16).all fun q => (List.range 14).all fun a => (List.range 14).all fun b => chk q a b) = true := by decide +kernel
theorem chk_at {q a b : Int} (h : Cs q a) (ha : Cl a) (hb : Cl b) : (gbt a b = 1 → ∃ q', nx q b = some q') ∧ (gbt a b = 0 → nx q b = none) ∧ ∀ q', nx q b = some q' → Cs q' b := by
  have hq : 0 ≤ q ∧ q ≤ 15 := by
    obtain ⟨h1, h2⟩ := ha
    rcases h with h | h | h | h <;> omega
  obtain ⟨qn, rfl⟩ : ∃ n : Nat, q = n := ⟨q.toNat, by omega⟩
  obtain ⟨an, rfl⟩ : ∃ n : Nat, a = n := ⟨a.toNat, by have := ha.1; omega⟩
  obtain ⟨bn, rfl⟩ : ∃ n : Nat, b = n := ⟨b.toNat, by have := hb.1; omega⟩
  have h1 := List.all_eq_true.1 chk_all qn (List.mem_range.2 (by omega))
  have h2 := List.all_eq_true.1 h1 an (List.mem_range.2 (by have := ha.2; omega))
  have h3 := List.all_eq_true.1 h2 bn (List.mem_range.2 (by have := hb.2; omega))
  unfold chk at h3
  rw [decide_eq_true h] at h3
  simp only [Bool.not_true, Bool.false_or, Bool.and_eq_true, Bool.or_eq_true, Bool.not_eq_true', decide_eq_false_iff_not] at h3
  obtain ⟨⟨k1, k2⟩, k3⟩ := h3
  refine ⟨fun e => ?_, fun e => ?_, fun q' e => ?_⟩
  · rcases k1 with k1 | k1
    · exact absurd e k1
    · exact Option.isSome_iff_exists.1 k1
  · rcases k2 with k2 | k2
    · exact absurd e k2
    · exact Option.isNone_iff_eq_none.1 k2
  · rw [e] at k3
    exact of_decide_eq_true k3
/-- A bound that two runes alone decide is passed by no letter; where two runes alone decide that there is none, no letter ends. -/
theorem gr_app : ∀ (A : List Int) (q a b : Int) (B : List Int), Cs q a → Cl a → Cl b → (∀ c ∈ A, Cl c) → gbt (A.getLastD a) b = 0 → gr q (A ++ b :: B) = gr q A
  | [], q, a, b, B, h, ha, hb, _, hg => by
    simp only [List.getLastD_nil] at hg
    simp only [List.nil_append]
    unfold gr
    rw [(chk_at h ha hb).2.1 hg]
  | c :: A, q, a, b, B, h, ha, hb, hA, hg => by
    have hc : Cl c := hA c (List.mem_cons_self ..)
    simp only [List.cons_append]
    unfold gr
    cases hn : nx q c with
    | none => rfl
    | some q' =>
      simp only []
      rw [gr_app A q' c b B ((chk_at h ha hc).2.2 q' hn) hc hb (fun d hd => hA d (List.mem_cons_of_mem _ hd)) (by rw [List.getLastD_cons] at hg; exact hg)]
theorem fstC_app (A : List Int) (b : Int) (B : List Int) (hne : A ≠ []) (hA : ∀ c ∈ A, Cl c) (hb : Cl b) (hg : gbt (A.getLastD 0) b = 0) : fstC (A ++ b :: B) = fstC A := by
  cases A with
  | nil => exact absurd rfl hne
  | cons c A =>
    simp only [List.cons_append, fstC]
    have hc : Cl c := hA c (List.mem_cons_self ..)
    rw [gr_app A c c b B (.inl rfl) hc hb (fun d hd => hA d (List.mem_cons_of_mem _ hd)) (by rw [List.getLastD_cons] at hg; exact hg)]
theorem gr_keep : ∀ (A : List Int) (q a b : Int) (B : List Int), Cs q a → Cl a → Cl b → (∀ c ∈ A, Cl c) → gbt (A.getLastD a) b = 1 → gr q (A ++ b :: B) ≠ A.length
  | [], q, a, b, B, h, ha, hb, _, hg => by
    simp only [List.getLastD_nil] at hg
    obtain ⟨q', hq⟩ := (chk_at h ha hb).1 hg
    simp only [List.nil_append, List.length_nil]
    unfold gr
    rw [hq]
    simp
  | c :: A, q, a, b, B, h, ha, hb, hA, hg => by
    have hc : Cl c := hA c (List.mem_cons_self ..)
    simp only [List.cons_append, List.length_cons]
    unfold gr
    cases hn : nx q c with
    | none => simp
    | some q' =>
      have := gr_keep A q' c b B ((chk_at h ha hc).2.2 q' hn) hc hb (fun d hd => hA d (List.mem_cons_of_mem _ hd)) (by rw [List.getLastD_cons] at hg; exact hg)
      simp only []
      omega
theorem fstC_keep (A : List Int) (b : Int) (B : List Int) (hne : A ≠ []) (hA : ∀ c ∈ A, Cl c) (hb : Cl b) (hg : gbt (A.getLastD 0) b = 1) : fstC (A ++ b :: B) ≠ A.length := by
  cases A with
  | nil => exact absurd rfl hne
  | cons c A =>
    simp only [List.cons_append, fstC, List.length_cons]
    have hc : Cl c := hA c (List.mem_cons_self ..)
    have := gr_keep A c c b B (.inl rfl) hc hb (fun d hd => hA d (List.mem_cons_of_mem _ hd)) (by rw [List.getLastD_cons] at hg; exact hg)
    omega
theorem lastD_drop (L : List Int) (k : Nat) (d : Int) (h : k < L.length) : (L.drop k).getLastD d = L.getLastD d := by
  rw [List.getLastD_eq_getLast?, List.getLastD_eq_getLast?, List.getLast?_drop, if_neg (by omega)]
section
variable (f : Nat × Nat → Int)
/-- A row of runes in letters. -/
def pcF : Nat → List (Nat × Nat) → List (List (Nat × Nat))
  | 0, _ => []
  | n + 1, X => if X = [] then [] else X.take (fstC (X.map f)) :: pcF n (X.drop (fstC (X.map f)))
def pcl (X : List (Nat × Nat)) : List (List (Nat × Nat)) := pcF f X.length X
theorem fst_bd (X : List (Nat × Nat)) (h : X ≠ []) : 1 ≤ fstC (X.map f) ∧ fstC (X.map f) ≤ X.length := by
  have := fstC_bd (X.map f) (by simpa using h)
  rwa [List.length_map] at this
theorem pcF_any : ∀ (n m : Nat) (X : List (Nat × Nat)), X.length ≤ n → X.length ≤ m → pcF f n X = pcF f m X
  | 0, 0, _, _, _ => rfl
  | 0, m + 1, X, h, _ => by
    obtain rfl : X = [] := List.length_eq_zero_iff.1 (by omega)
    simp [pcF]
  | n + 1, 0, X, _, h => by
    obtain rfl : X = [] := List.length_eq_zero_iff.1 (by omega)
    simp [pcF]
  | n + 1, m + 1, X, h, k => by
    unfold pcF
    by_cases e : X = []
    · rw [if_pos e, if_pos e]
    · have := fst_bd f X e
      have hd : (X.drop (fstC (X.map f))).length = X.length - fstC (X.map f) := List.length_drop ..
      rw [if_neg e, if_neg e, pcF_any n m _ (by omega) (by omega)]
theorem pcl_nil : pcl f [] = [] := rfl
theorem pcl_cons (X : List (Nat × Nat)) (h : X ≠ []) : pcl f X = X.take (fstC (X.map f)) :: pcl f (X.drop (fstC (X.map f))) := by
  have hb := fst_bd f X h
  have hd : (X.drop (fstC (X.map f))).length = X.length - fstC (X.map f) := List.length_drop ..
  unfold pcl
  rw [pcF_any f _ (X.length - 1 + 1) X (by omega) (by omega)]
  conv => lhs; unfold pcF
  rw [if_neg h, pcF_any f _ _ _ (by omega) (Nat.le_refl _)]
theorem pcl_all : ∀ (n : Nat) (X : List (Nat × Nat)), X.length ≤ n → (pcl f X).flatten = X
  | n, X, h => by
    by_cases e : X = []
    · subst e; rfl
    · have hb := fst_bd f X e
      cases n with
      | zero => exact absurd (List.length_eq_zero_iff.1 (by omega)) e
      | succ n =>
        rw [pcl_cons f X e, List.flatten_cons, pcl_all n _ (by rw [List.length_drop]; omega), List.take_append_drop]
theorem pcl_ne : ∀ (n : Nat) (X : List (Nat × Nat)), X.length ≤ n → ∀ x ∈ pcl f X, x ≠ []
  | n, X, h => by
    by_cases e : X = []
    · subst e; intro x hx; cases hx
    · have hb := fst_bd f X e
      cases n with
      | zero => exact absurd (List.length_eq_zero_iff.1 (by omega)) e
      | succ n =>
        rw [pcl_cons f X e]
        intro x hx
        rcases List.mem_cons.1 hx with rfl | hx
        · intro h0
          have := congrArg List.length h0
          rw [List.length_take] at this
          simp only [List.length_nil] at this
          omega
        · exact pcl_ne n _ (by rw [List.length_drop]; omega) x hx
/-- The letters ahead of a bound are the letters of the text ahead of it, and so behind it. -/
theorem pcl_cut : ∀ (P Q : List (List (Nat × Nat))) (X : List (Nat × Nat)), pcl f X = P ++ Q → pcl f P.flatten = P ∧ pcl f Q.flatten = Q
  | [], Q, X, h => by
    refine ⟨rfl, ?_⟩
    simp only [List.nil_append] at h
    rw [← h, pcl_all f _ X (Nat.le_refl _)]
  | p :: P, Q, X, h => by
    by_cases e : X = []
    · subst e; simp [pcl_nil] at h
    · rw [pcl_cons f X e, List.cons_append] at h
      obtain ⟨h1, h2⟩ := List.cons.inj h
      obtain ⟨k1, k2⟩ := pcl_cut P Q _ h2
      refine ⟨?_, k2⟩
      have hb := fst_bd f X e
      have hX : X = (p ++ P.flatten) ++ Q.flatten := by
        have h3 := pcl_all f _ (X.drop (fstC (X.map f))) (Nat.le_refl _)
        rw [h2, List.flatten_append] at h3
        rw [List.append_assoc, h3, ← h1, List.take_append_drop]
      have hpl : p.length = fstC (X.map f) := by rw [← h1, List.length_take]; omega
      have hT : p ++ P.flatten = X.take (p ++ P.flatten).length := by
        conv => rhs; rw [hX]
        rw [List.take_left]
      have hF : fstC ((p ++ P.flatten).map f) = fstC (X.map f) := by
        rw [hT, List.map_take]
        exact fstC_take _ _ (by rw [List.length_append]; omega)
      have hne : p ++ P.flatten ≠ [] := fun e0 => by
        have := congrArg List.length e0
        rw [List.length_append] at this
        simp only [List.length_nil] at this
        omega
      rw [List.flatten_cons, pcl_cons f _ hne, hF, ← hpl, List.take_left, List.drop_left, k1]
def Clf : Prop := ∀ x, Cl (f x)
/-- Where two runes alone decide that there is a bound. -/
theorem pcl_sure (hf : Clf f) : ∀ (n : Nat) (A : List (Nat × Nat)) (b : Nat × Nat) (B : List (Nat × Nat)), A.length ≤ n → A ≠ [] → gbt ((A.map f).getLastD 0) (f b) = 0 → pcl f (A ++ b :: B) = pcl f A ++ pcl f (b :: B)
  | n, A, b, B, hn, hA, hg => by
    have hb := fst_bd f A hA
    have hF : fstC ((A ++ b :: B).map f) = fstC (A.map f) := by
      rw [List.map_append, List.map_cons]
      exact fstC_app _ _ _ (by simpa using hA) (fun c hc => by obtain ⟨x, _, rfl⟩ := List.mem_map.1 hc; exact hf x) (hf b) hg
    cases n with
    | zero => exact absurd (List.length_eq_zero_iff.1 (by omega)) hA
    | succ n =>
      rw [pcl_cons f (A ++ b :: B) (by simp), hF, List.take_append_of_le_length hb.2, List.drop_append_of_le_length hb.2, pcl_cons f A hA, List.cons_append]
      congr 1
      by_cases e : A.drop (fstC (A.map f)) = []
      · rw [e, pcl_nil]; rfl
      · refine pcl_sure hf n _ b B (by rw [List.length_drop]; omega) e ?_
        have hle : fstC (A.map f) < (A.map f).length := by
          rcases Nat.lt_or_ge (fstC (A.map f)) (A.map f).length with h | h
          · exact h
          · rw [List.length_map] at h; exact absurd (List.drop_of_length_le h) e
        rw [List.map_drop, lastD_drop _ _ _ hle]
        exact hg
/-- Where two runes alone decide that there is none. -/
theorem pcl_keep (hf : Clf f) : ∀ (P Q : List (List (Nat × Nat))) (A : List (Nat × Nat)) (b : Nat × Nat) (B : List (Nat × Nat)), A ≠ [] → gbt ((A.map f).getLastD 0) (f b) = 1 → pcl f (A ++ b :: B) = P ++ Q → P.flatten ≠ A
  | [], Q, A, b, B, hA, _, _ => fun e => hA e.symm
  | p :: P, Q, A, b, B, hA, hg, h => by
    intro e
    rw [pcl_cons f (A ++ b :: B) (by simp), List.cons_append] at h
    obtain ⟨h1, h2⟩ := List.cons.inj h
    have hF : fstC ((A ++ b :: B).map f) ≠ A.length := by
      have := fstC_keep (A.map f) (f b) (B.map f) (by simpa using hA) (fun c hc => by obtain ⟨x, _, rfl⟩ := List.mem_map.1 hc; exact hf x) (hf b) hg
      rwa [List.length_map, ← List.map_cons, ← List.map_append] at this
    have hbd := fst_bd f (A ++ b :: B) (by simp)
    have hpl : p.length = fstC ((A ++ b :: B).map f) := by rw [← h1, List.length_take]; omega
    rw [List.flatten_cons] at e
    have hlt : fstC ((A ++ b :: B).map f) < A.length := by
      have := congrArg List.length e
      rw [List.length_append] at this
      omega
    rw [List.drop_append_of_le_length (Nat.le_of_lt hlt)] at h2
    have hdn : A.drop (fstC ((A ++ b :: B).map f)) ≠ [] := fun e0 => by
      have := congrArg List.length e0
      rw [List.length_drop] at this
      simp only [List.length_nil] at this
      omega
    refine pcl_keep hf P Q _ b B hdn ?_ h2 ?_
    · rw [List.map_drop, lastD_drop _ _ _ (by rw [List.length_map]; omega)]
      exact hg
    · rw [← hpl]
      conv => rhs; rw [← e]
      rw [List.drop_left]
/-- A bound between A and B. -/
theorem pcl_join (A B : List (Nat × Nat)) (P Q : List (List (Nat × Nat))) (h : pcl f (A ++ B) = P ++ Q) (e : P.flatten = A) : pcl f (A ++ B) = pcl f A ++ pcl f B := by
  obtain ⟨h1, h2⟩ := pcl_cut f P Q _ h
  have h3 := pcl_all f _ (A ++ B) (Nat.le_refl _)
  rw [h, List.flatten_append, e] at h3
  rw [e] at h1
  rw [List.append_cancel_left h3] at h2
  rw [h, h1, h2]
end
end Go.Proofs.YtffbdnlfknomnaaDoor.Wt
