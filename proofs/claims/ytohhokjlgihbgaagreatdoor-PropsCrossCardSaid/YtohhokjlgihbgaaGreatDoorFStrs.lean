/- The contracts of strings.Trim at blanks and of strings.ReplaceAll of tabs. -/
import Derived.Test.YtohhokjlgihbgaaGreatDoorFLay4
import Derived.Test.YtohhokjlgihbgaaGreatDoorFHide
namespace Go.Proofs.YtohhokjlgihbgaaGreatDoor
open Go.RowKit Go.Shelf

theorem trim4_any (l : List UInt8) (w : World) (hl : l.length ≤ 9223372036854775807) :
    Calls Tryz.prog 65 #[.string ⟨l.toArray⟩, .string ⟨#[32, 9]⟩] w fun e w' => e = .returned (.string ⟨(Lib.trimS l [32, 9]).toArray⟩) ∧ Below w.heap.size w w' :=
  Any.strings_Trim_laid Tryz.lays160 (by kernel_rfl) ⟨l.toArray⟩ ⟨#[32, 9]⟩ w (by show l.toArray.size ≤ _; simpa using hl) (by decide) (ascii_of_all (by decide))
theorem extra155 : Builder.Extra Tryz.prog Tryz.laysM155_ren where
  sizeBuilder := by kernel_rfl
  liesBuilder := by kernel_rfl
  t5 := Tryz.laysM155.t5
  a5 := Tryz.laysM155.a5
  z5 := Tryz.laysM155.z5
  v5 := Tryz.laysM155.v5
  infoByte := by kernel_rfl
  cellsByte := by kernel_rfl
  sizeByte := by kernel_rfl
  neB5 := by decide
/-- A tab becomes a blank. -/
def tbl (b : UInt8) : UInt8 := if b = 9 then 32 else b
theorem index_at (c : UInt8) : ∀ (P R : List UInt8), c ∉ P → Lib.indexByte (P ++ c :: R) c = (P.length : Int)
  | [], R, _ => by
    show Lib.indexByte (c :: R) c = 0
    unfold Lib.indexByte
    simp
  | p :: P, R, h => by
    have h1 : ¬ p = c := fun e => h (by simp [e])
    have ih := index_at c P R (fun hm => h (by simp [hm]))
    show Lib.indexByte (p :: (P ++ c :: R)) c = _
    unfold Lib.indexByte
    rw [ih]
    simp [h1]
theorem map_tbl (P : List UInt8) (h : (9 : UInt8) ∉ P) : P.map tbl = P := by
  induction P with
  | nil => rfl
  | cons p P ih =>
    have h1 : ¬ p = 9 := fun e => h (by simp [e])
    rw [List.map_cons, ih (fun hm => h (by simp [hm]))]
    unfold tbl
    rw [if_neg h1]
theorem rep_K : ∀ (k : Nat) (l : List UInt8), l.count 9 = k → Lib.replaceK [9] [32] k l = l.map tbl
  | 0, l, h => by
    show l = _
    rw [map_tbl l (List.count_eq_zero.1 h)]
  | k + 1, l, h => by
    have hm : (9 : UInt8) ∈ l := List.count_pos_iff.1 (by omega)
    obtain ⟨P, R, rfl, hP⟩ := List.eq_append_cons_of_mem hm
    have hi : Lib.index (P ++ 9 :: R) [9] = (P.length : Int) := by rw [Lib.index_one, index_at 9 P R hP]
    have hc : R.count 9 = k := by
      rw [List.count_append, List.count_cons_self, List.count_eq_zero.2 hP] at h
      omega
    have ih := rep_K k R hc
    rw [Lib.replaceK_hit [9] [32] k (P ++ 9 :: R) P.length hi]
    have e1 : (P ++ 9 :: R).take P.length = P := by simp
    have e2 : (P ++ 9 :: R).drop (P.length + [(9 : UInt8)].length) = R := by simp
    rw [e1, e2, ih, List.map_append, List.map_cons, map_tbl P hP]
    show P ++ [32] ++ R.map tbl = P ++ tbl 9 :: R.map tbl
    simp [tbl]
theorem rep_map (l : List UInt8) : Lib.replaceAll l [9] [32] = l.map tbl := by
  unfold Lib.replaceAll Lib.replace
  rw [if_neg (by decide)]
  unfold Lib.replaceNum
  rw [if_pos (.inl (by decide)), Lib.count_one]
  exact rep_K _ l rfl
theorem repl_any (l : List UInt8) (m : Int) (w : World) (hl : l.length ≤ 100000) (hm : w.cell? ⟨2, 0, none⟩ = some (.int .i64 m)) :
    Calls Tryz.prog 68 #[.string ⟨l.toArray⟩, .string ⟨#[9]⟩, .string ⟨#[32]⟩] w fun e w' => e = .returned (.string ⟨(l.map tbl).toArray⟩) ∧ Below w.heap.size w w' := by
  have hs : (⟨l.toArray⟩ : ByteArray).size = l.length := by show l.toArray.size = _; simp
  have hc := Lib.countB_le ⟨#[9]⟩ (by decide) _ (⟨l.toArray⟩ : ByteArray) (Nat.le_refl _)
  have h5 := Any.strings_ReplaceAll { Tryz.laysM155 with } extra155 ⟨l.toArray⟩ ⟨#[9]⟩ ⟨#[32]⟩ m w (by rw [hs]; omega) hm (by decide) (by rw [hs] at hc ⊢; have e : (⟨#[32]⟩ : ByteArray).size = 1 := rfl; rw [e]; omega)
  rw [← rep_map]
  exact h5
end Go.Proofs.YtohhokjlgihbgaaGreatDoor
/- The lines of a text. -/
namespace Go.Proofs.YtohhokjlgihbgaaGreatDoor

/-- The lines of a text: what stands between the bytes 10. -/
def lns : List UInt8 → List (List UInt8)
  | [] => [[]]
  | b :: r => if b = 10 then [] :: lns r else (b :: (lns r).headD []) :: (lns r).tail
theorem lns_cons (b : UInt8) (r : List UInt8) : lns (b :: r) = if b = 10 then [] :: lns r else (b :: (lns r).headD []) :: (lns r).tail := by rw [lns]
theorem lns_no : ∀ (p : List UInt8), (10 : UInt8) ∉ p → lns p = [p]
  | [], _ => rfl
  | b :: r, h => by
    have h1 : ¬ b = 10 := fun e => h (by simp [e])
    have ih := lns_no r (fun e => h (by simp [e]))
    rw [lns_cons, if_neg h1, ih]
    rfl
theorem lns_at : ∀ (p r : List UInt8), (10 : UInt8) ∉ p → lns (p ++ 10 :: r) = p :: lns r
  | [], r, _ => by
    show lns (10 :: r) = _
    rw [lns_cons, if_pos rfl]
  | b :: p, r, h => by
    have h1 : ¬ b = 10 := fun e => h (by simp [e])
    have ih := lns_at p r (fun e => h (by simp [e]))
    show lns (b :: (p ++ 10 :: r)) = _
    rw [lns_cons, if_neg h1, ih]
    rfl
theorem index_none (c : UInt8) : ∀ (l : List UInt8), c ∉ l → Lib.indexByte l c = -1
  | [], _ => by simp [Lib.indexByte]
  | p :: P, h => by
    have h1 : ¬ p = c := fun e => h (by simp [e])
    have ih := index_none c P (fun hm => h (by simp [hm]))
    unfold Lib.indexByte
    rw [ih]
    simp [h1]
theorem split_at (c : UInt8) : ∀ (l : List UInt8), c ∈ l → ∃ P R, l = P ++ c :: R ∧ c ∉ P
  | [], h => by simp at h
  | b :: l, h => by
    by_cases e : b = c
    · exact ⟨[], l, by rw [e]; rfl, by simp⟩
    · obtain ⟨P, R, h1, h2⟩ := split_at c l (by rcases List.mem_cons.1 h with h | h; exact absurd h.symm e; exact h)
      exact ⟨b :: P, R, by rw [h1]; rfl, fun hm => by rcases List.mem_cons.1 hm with h | h; exact e h.symm; exact h2 h⟩
theorem idx_cases (l : List UInt8) : ((10 : UInt8) ∉ l ∧ Lib.indexByte l 10 = -1) ∨ ∃ P R, l = P ++ 10 :: R ∧ (10 : UInt8) ∉ P ∧ Lib.indexByte l 10 = (P.length : Int) := by
  by_cases h : (10 : UInt8) ∈ l
  · obtain ⟨P, R, h1, h2⟩ := split_at 10 l h
    exact .inr ⟨P, R, h1, h2, by rw [h1]; exact index_at 10 P R h2⟩
  · exact .inl ⟨h, index_none 10 l h⟩
theorem lns_len : ∀ l : List UInt8, (lns l).length ≤ l.length + 1
  | [] => by simp [lns]
  | b :: r => by
    have ih := lns_len r
    rw [lns_cons]
    split
    · simp; omega
    · simp; omega
theorem lns_mem : ∀ (l x : List UInt8), x ∈ lns l → x.length ≤ l.length
  | [], x, h => by simp [lns] at h; simp [h]
  | b :: r, x, h => by
    rw [lns_cons] at h
    split at h
    · rcases List.mem_cons.1 h with h | h
      · simp [h]
      · have := lns_mem r x h
        simp; omega
    · rcases List.mem_cons.1 h with h | h
      · subst h
        have hh : (lns r).headD [] = [] ∨ (lns r).headD [] ∈ lns r := by
          cases hr : lns r with
          | nil => exact .inl rfl
          | cons y ys => exact .inr (by simp)
        rcases hh with hh | hh
        · rw [hh]; simp
        · have h5 := lns_mem r _ hh
          rw [List.length_cons, List.length_cons]; omega
      · have := lns_mem r x (List.mem_of_mem_tail h)
        simp; omega
end Go.Proofs.YtohhokjlgihbgaaGreatDoor
