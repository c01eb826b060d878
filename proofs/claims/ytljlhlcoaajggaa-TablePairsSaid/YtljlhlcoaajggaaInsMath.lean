/- A range laid among rising ones. -/
import Derived.Test.YtljlhlcoaajggaaSearch
import Derived.Test.YtljlhlcoaajggaaMade4
namespace Go.Proofs.Ytljlhlcoaajggaa

/-- Laid behind those that lie ahead. -/
def insR (g : Tr) : List Tr → List Tr
  | [] => [g]
  | x :: A => if x.2.1 < g.1 then x :: insR g A else g :: x :: A
/-- How many lie ahead. -/
def spt (g : Tr) : List Tr → Nat
  | [] => 0
  | x :: A => if x.2.1 < g.1 then spt g A + 1 else 0
/-- Whether two share a number. -/
def mt (x g : Tr) : Bool := apt (rkT x) (rkT g) == 0
theorem spt_le (g : Tr) : ∀ A, spt g A ≤ A.length
  | [] => Nat.le_refl _
  | x :: A => by
    unfold spt
    split
    · have := spt_le g A; simp; omega
    · omega
theorem insR_eq (g : Tr) : ∀ A, insR g A = A.take (spt g A) ++ g :: A.drop (spt g A)
  | [] => rfl
  | x :: A => by
    unfold insR spt
    split
    · rw [insR_eq g A]; rfl
    · rfl
theorem insR_perm (g : Tr) : ∀ A, List.Perm (insR g A) (g :: A)
  | [] => List.Perm.refl _
  | x :: A => by
    unfold insR
    split
    · exact ((insR_perm g A).cons x).trans (List.Perm.swap g x A)
    · exact List.Perm.refl _
theorem insR_len (g : Tr) (A : List Tr) : (insR g A).length = A.length + 1 := (insR_perm g A).length_eq
theorem ris_mem : ∀ {A : List Tr} {b : Nat}, Ris b A → ∀ y ∈ A, b ≤ y.1 ∧ y.1 ≤ y.2.1 ∧ y.2.1 ≤ 1114111 ∧ y.2.2 < 256
  | [], _, _, y, hy => by cases hy
  | x :: A, b, h, y, hy => by
    obtain ⟨h1, h2, h3, h4, h5⟩ := h
    rcases List.mem_cons.1 hy with rfl | hy
    · exact ⟨h1, h2, h3, h4⟩
    · obtain ⟨a1, a2, a3, a4⟩ := ris_mem h5 y hy
      exact ⟨by omega, a2, a3, a4⟩
theorem apt_m1 (x g : Tr) : apt (rkT x) (rkT g) = -1 ↔ x.2.1 < g.1 := by
  unfold apt rkT
  dsimp only
  constructor
  · intro h
    split at h
    · omega
    · split at h <;> omega
  · intro h
    rw [if_pos (by omega)]
theorem spt_low (g : Tr) : ∀ (A : List Tr) (k : Nat) (x : Tr), k < spt g A → A[k]? = some x → x.2.1 < g.1
  | [], k, x, h, _ => by simp [spt] at h
  | y :: A, k, x, h, hk => by
    unfold spt at h
    split at h
    · rename_i hy
      cases k with
      | zero => cases hk; exact hy
      | succ k => exact spt_low g A k x (by omega) hk
    · omega
theorem spt_high (g : Tr) : ∀ (A : List Tr) (b k : Nat) (x : Tr), Ris b A → spt g A ≤ k → A[k]? = some x → ¬ x.2.1 < g.1
  | [], _, k, x, _, _, hk => by simp at hk
  | y :: A, b, k, x, hR, h, hk => by
    obtain ⟨h1, h2, h3, h4, h5⟩ := hR
    unfold spt at h
    split at h
    · cases k with
      | zero => omega
      | succ k => exact spt_high g A _ k x h5 (by omega) hk
    · rename_i hy
      cases k with
      | zero => cases hk; exact hy
      | succ k =>
        have := ris_mem h5 x (List.mem_of_getElem? hk)
        omega
theorem mt_yes (x g : Tr) (_ : x.1 ≤ x.2.1) : mt x g = true ↔ ¬ x.2.1 < g.1 ∧ ¬ g.2.1 < x.1 := by
  unfold mt apt rkT
  dsimp only
  by_cases a : x.2.1 < g.1
  · rw [if_pos (by omega)]; simp [a]
  · rw [if_neg (by omega)]
    by_cases b : g.2.1 < x.1
    · rw [if_pos (by omega)]; simp [b]
    · rw [if_neg (by omega)]; simp [a, b]
theorem hit_spt (g : Tr) : ∀ (A : List Tr) (b : Nat), Ris b A → g.1 ≤ g.2.1 → hit ((A.map rkT)[spt g A]?) (rkT g) = A.any (fun x => mt x g)
  | [], _, _, _ => rfl
  | y :: A, b, hR, hg => by
    obtain ⟨h1, h2, h3, h4, h5⟩ := hR
    unfold spt
    by_cases hy : y.2.1 < g.1
    · rw [if_pos hy]
      have hm : mt y g = false := by
        cases h : mt y g with
        | false => rfl
        | true => exact absurd hy ((mt_yes y g h2).1 h).1
      rw [List.any_cons, hm, Bool.false_or, ← hit_spt g A _ h5 hg]
      rfl
    · rw [if_neg hy]
      show (apt (rkT y) (rkT g) == 0) = _
      rw [List.any_cons]
      change mt y g = _
      cases hm : mt y g with
      | true => rfl
      | false =>
        have hn : g.2.1 < y.1 := by
          rcases Nat.lt_or_ge g.2.1 y.1 with h | h
          · exact h
          · rw [(mt_yes y g h2).2 ⟨hy, by omega⟩] at hm; cases hm
        symm
        rw [Bool.false_or, List.any_eq_false]
        intro z hz hzt
        have a := ris_mem h5 z hz
        have := (mt_yes z g a.2.1).1 hzt
        omega
theorem ris_ins (g : Tr) (hg : g.1 ≤ g.2.1) (h3' : g.2.1 ≤ 1114111) (h4' : g.2.2 < 256) : ∀ (A : List Tr) (b : Nat), Ris b A → b ≤ g.1 → A.any (fun x => mt x g) = false → Ris b (insR g A)
  | [], _, _, hb, _ => ⟨hb, hg, h3', h4', trivial⟩
  | y :: A, b, hR, hb, hn => by
    obtain ⟨h1, h2, h3, h4, h5⟩ := hR
    rw [List.any_cons, Bool.or_eq_false_iff] at hn
    unfold insR
    split
    · rename_i hy
      exact ⟨h1, h2, h3, h4, ris_ins g hg h3' h4' A _ h5 (by omega) hn.2⟩
    · rename_i hy
      refine ⟨hb, hg, h3', h4', ?_, h2, h3, h4, h5⟩
      rcases Nat.lt_or_ge g.2.1 y.1 with h | h
      · exact h
      · have := (mt_yes y g h2).2 ⟨hy, by omega⟩
        rw [this] at hn
        cases hn.1

/-- A range that may be so. -/
def okR (g : Rk) : Bool := decide (0 ≤ g.1 ∧ g.2.1 ≤ 1114111 ∧ g.1 ≤ g.2.1) && icl g.2.2
def toT (g : Rk) : Tr := (g.1.toNat, g.2.1.toNat, g.2.2.toNat)
theorem okR_iff (g : Rk) : okR g = true ↔ (0 ≤ g.1 ∧ g.2.1 ≤ 1114111 ∧ g.1 ≤ g.2.1) ∧ (0 ≤ g.2.2 ∧ g.2.2 ≤ 255) := by
  unfold okR icl
  simp
theorem rkT_toT {g : Rk} (h : okR g = true) : rkT (toT g) = g := by
  obtain ⟨⟨h1, h2, h3⟩, h4, h5⟩ := (okR_iff g).1 h
  obtain ⟨a, b, c⟩ := g
  dsimp only at *
  unfold rkT toT
  dsimp only
  rw [Int.toNat_of_nonneg h1, Int.toNat_of_nonneg (by omega), Int.toNat_of_nonneg h4]
theorem toT_ok {g : Rk} (h : okR g = true) : (toT g).1 ≤ (toT g).2.1 ∧ (toT g).2.1 ≤ 1114111 ∧ (toT g).2.2 < 256 := by
  obtain ⟨⟨h1, h2, h3⟩, h4, h5⟩ := (okR_iff g).1 h
  obtain ⟨a, b, c⟩ := g
  dsimp only [toT] at *
  omega
/-- The first fault of a list of ranges: its number and its place; D: those ahead. -/
def flt : List Tr → Nat → List Rk → Option (Int × Nat)
  | _, _, [] => none
  | D, i, g :: l => if okR g = true then (if D.any (fun x => mt x (toT g)) = true then some (8, i) else flt (insR (toT g) D) (i + 1) l) else some (30, i)
/-- The ranges, rising. -/
def srt : List Tr → List Rk → List Tr
  | D, [] => D
  | D, g :: l => srt (insR (toT g) D) l
theorem srt_ris : ∀ (l : List Rk) (D : List Tr) (i : Nat), Ris 0 D → flt D i l = none → Ris 0 (srt D l)
  | [], D, _, h, _ => h
  | g :: l, D, i, h, hf => by
    unfold flt at hf
    split at hf
    · rename_i hg
      split at hf
      · cases hf
      · rename_i ha
        obtain ⟨t1, t2, t3⟩ := toT_ok hg
        exact srt_ris l _ _ (ris_ins _ t1 t2 t3 D 0 h (Nat.zero_le _) (by simpa using ha)) hf
    · cases hf
end Go.Proofs.Ytljlhlcoaajggaa
