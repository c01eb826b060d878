/- What the walks need not see. -/
import Derived.Lib.MapLaws
import Derived.Deep.AppendLies
import Derived.Test.YtohhokjlgihbgaaGreatDoorProg
import Derived.WalkKit
import Derived.WalkSpells
import Derived.WalkLawsBesides
import Derived.Deep.QuietTactic
import Derived.BigQuiet
import Derived.WalkSmall
import Derived.Maps.Views
import Derived.Maps.Own
import Derived.Maps.OwnSet
import Derived.Maps.Keyed
import Derived.Lib.BufferMore
namespace Go.Proofs.YtohhokjlgihbgaaGreatDoor
open Go.RowKit

theorem hid {p : Prop} (h : p) : Hid p := h
end Go.Proofs.YtohhokjlgihbgaaGreatDoor
/- Sets of numbers as lists of ranges: the normal form is one alone, and what merging, turning over and meeting come to. -/
namespace Go.Proofs.YtohhokjlgihbgaaGreatDoor

/-- A range: its least and its greatest number. -/
abbrev Rg := Int × Int
def top : Int := 1114111
/-- A number is in one of the ranges. -/
def isin (r : Int) : List Rg → Prop
  | [] => False
  | g :: l => (g.1 ≤ r ∧ r ≤ g.2) ∨ isin r l
/-- In normal form, from a number on. -/
def nfF (b : Int) : List Rg → Prop
  | [] => True
  | g :: l => b ≤ g.1 ∧ g.1 ≤ g.2 ∧ g.2 ≤ top ∧ nfF (g.2 + 2) l
def nf (l : List Rg) : Prop := nfF 0 l

theorem isin_ge : ∀ {l : List Rg} {b r : Int}, nfF b l → isin r l → b ≤ r
  | [], _, _, _, h => h.elim
  | g :: l, b, r, hn, h => by
    obtain ⟨h1, h2, _, h4⟩ := hn
    rcases h with ⟨a, _⟩ | h
    · omega
    · have := isin_ge h4 h; omega
theorem isin_le : ∀ {l : List Rg} {b r : Int}, nfF b l → isin r l → r ≤ top
  | [], _, _, _, h => h.elim
  | g :: l, b, r, hn, h => by
    obtain ⟨_, _, h3, h4⟩ := hn
    rcases h with ⟨_, a⟩ | h
    · omega
    · exact isin_le h4 h
theorem nfF_mono {l : List Rg} {b b' : Int} (h : nfF b l) (hb : b' ≤ b) : nfF b' l := by
  cases l with
  | nil => trivial
  | cons g l => exact ⟨by have := h.1; omega, h.2⟩

/-- Each set has just one normal form. -/
theorem nf_one : ∀ {l l' : List Rg} {b b' : Int}, nfF b l → nfF b' l' → (∀ r, isin r l ↔ isin r l') → l = l'
  | [], [], _, _, _, _, _ => rfl
  | [], g :: l', _, _, _, hn, h => by
    have : isin g.1 [] := (h g.1).2 (Or.inl ⟨Int.le_refl _, hn.2.1⟩)
    exact this.elim
  | g :: l, [], _, _, hn, _, h => by
    have : isin g.1 [] := (h g.1).1 (Or.inl ⟨Int.le_refl _, hn.2.1⟩)
    exact this.elim
  | g :: l, g' :: l', b, b', hn, hn', h => by
    obtain ⟨_, h2, _, h4⟩ := hn
    obtain ⟨_, h2', _, h4'⟩ := hn'
    have a1 : g'.1 ≤ g.1 := by
      rcases (h g.1).1 (Or.inl ⟨Int.le_refl _, h2⟩) with ⟨a, _⟩ | a
      · exact a
      · have := isin_ge h4' a; omega
    have a2 : g.1 ≤ g'.1 := by
      rcases (h g'.1).2 (Or.inl ⟨Int.le_refl _, h2'⟩) with ⟨a, _⟩ | a
      · exact a
      · have := isin_ge h4 a; omega
    have a3 : g'.2 ≤ g.2 := by
      rcases Int.lt_or_le g.2 g'.2 with hlt | hle
      · exfalso
        rcases (h (g.2 + 1)).2 (Or.inl ⟨by omega, by omega⟩) with ⟨_, a⟩ | a
        · omega
        · have := isin_ge h4 a; omega
      · exact hle
    have a4 : g.2 ≤ g'.2 := by
      rcases Int.lt_or_le g'.2 g.2 with hlt | hle
      · exfalso
        rcases (h (g'.2 + 1)).1 (Or.inl ⟨by omega, by omega⟩) with ⟨_, a⟩ | a
        · omega
        · have := isin_ge h4' a; omega
      · exact hle
    have eg : g = g' := Prod.ext (by omega) (by omega)
    subst eg
    have et : l = l' := nf_one h4 h4' (fun r => ⟨fun hr => by
      have hge := isin_ge h4 hr
      rcases (h r).1 (Or.inr hr) with ⟨_, a⟩ | a
      · omega
      · exact a, fun hr => by
      have hge := isin_ge h4' hr
      rcases (h r).2 (Or.inr hr) with ⟨_, a⟩ | a
      · omega
      · exact a⟩)
    rw [et]

/-- Merging: the last range that stands open, and what is to come. -/
def mrgF (lo hi : Int) : List Rg → List Rg
  | [] => [(lo, hi)]
  | g :: t => if hi + 1 < g.1 then (lo, hi) :: mrgF g.1 g.2 t else mrgF lo (max hi g.2) t
def mrg : List Rg → List Rg
  | [] => []
  | g :: t => mrgF g.1 g.2 t
/-- Ranges that are some, by rising first numbers, from a number on. -/
def srt (b : Int) : List Rg → Prop
  | [] => True
  | g :: t => b ≤ g.1 ∧ g.1 ≤ g.2 ∧ g.2 ≤ top ∧ srt g.1 t

theorem mrgF_nf : ∀ {l : List Rg} {b lo hi : Int}, b ≤ lo → lo ≤ hi → hi ≤ top → srt lo l → nfF b (mrgF lo hi l)
  | [], _, _, _, h1, h2, h3, _ => ⟨h1, h2, h3, trivial⟩
  | g :: t, b, lo, hi, h1, h2, h3, hs => by
    obtain ⟨s1, s2, s3, s4⟩ := hs
    unfold mrgF
    split
    · exact ⟨h1, h2, h3, mrgF_nf (by omega) s2 s3 s4⟩
    · refine mrgF_nf h1 (by omega) (by omega) ?_
      cases t with
      | nil => trivial
      | cons x t => exact ⟨by have := s4.1; omega, s4.2⟩
theorem mrgF_in : ∀ {l : List Rg} {lo hi : Int} (r : Int), lo ≤ hi → srt lo l → (isin r (mrgF lo hi l) ↔ (lo ≤ r ∧ r ≤ hi) ∨ isin r l)
  | [], _, _, _, _, _ => by simp [mrgF, isin]
  | g :: t, lo, hi, r, h2, hs => by
    obtain ⟨s1, s2, s3, s4⟩ := hs
    unfold mrgF
    split
    · rename_i hc
      show ((lo ≤ r ∧ r ≤ hi) ∨ isin r (mrgF g.1 g.2 t)) ↔ _
      rw [mrgF_in r s2 s4]
      exact Iff.rfl
    · rename_i hc
      have st : srt lo t := by
        cases t with
        | nil => trivial
        | cons x t => exact ⟨by have := s4.1; omega, s4.2⟩
      rw [mrgF_in r (by omega) st]
      show _ ↔ (lo ≤ r ∧ r ≤ hi) ∨ (g.1 ≤ r ∧ r ≤ g.2) ∨ isin r t
      constructor
      · rintro (⟨a, b⟩ | h)
        · rcases Int.lt_or_le hi r with hr | hr
          · exact Or.inr (Or.inl ⟨by omega, by omega⟩)
          · exact Or.inl ⟨a, hr⟩
        · exact Or.inr (Or.inr h)
      · rintro (⟨a, b⟩ | ⟨a, b⟩ | h)
        · exact Or.inl ⟨a, by omega⟩
        · exact Or.inl ⟨by omega, by omega⟩
        · exact Or.inr h
theorem mrg_nf {l : List Rg} (h : srt 0 l) : nf (mrg l) := by
  cases l with
  | nil => trivial
  | cons g t => exact mrgF_nf h.1 h.2.1 h.2.2.1 h.2.2.2
theorem mrg_in {l : List Rg} (h : srt 0 l) (r : Int) : isin r (mrg l) ↔ isin r l := by
  cases l with
  | nil => exact Iff.rfl
  | cons g t => exact mrgF_in r h.2.1 h.2.2.2

/-- What is left of a range within 0 to the greatest rune. -/
def cut1 (g : Rg) : Rg := (max g.1 0, min g.2 top)
def cut (l : List Rg) : List Rg := (l.map cut1).filter fun g => decide (g.1 ≤ g.2)
/-- r is in the set that a list means. -/
def means (r : Int) (l : List Rg) : Prop := 0 ≤ r ∧ r ≤ top ∧ isin r l
theorem isin_iff {r : Int} : ∀ {l : List Rg}, isin r l ↔ ∃ g, g ∈ l ∧ g.1 ≤ r ∧ r ≤ g.2
  | [] => by simp [isin]
  | g :: l => by simp [isin, isin_iff (l := l)]
theorem cut_in {l : List Rg} {r : Int} : isin r (cut l) ↔ means r l := by
  unfold means
  rw [isin_iff, isin_iff]
  unfold cut
  constructor
  · rintro ⟨g, hg, h1, h2⟩
    rw [List.mem_filter, List.mem_map] at hg
    obtain ⟨⟨x, hx, rfl⟩, _⟩ := hg
    unfold cut1 at h1 h2
    dsimp only at h1 h2
    unfold top at *
    exact ⟨by omega, by omega, x, hx, by omega, by omega⟩
  · rintro ⟨h0, h1, x, hx, h2, h3⟩
    refine ⟨cut1 x, List.mem_filter.2 ⟨List.mem_map.2 ⟨x, hx, rfl⟩, ?_⟩, ?_, ?_⟩
    · unfold cut1 top at *; simp; omega
    · unfold cut1; dsimp only; omega
    · unfold cut1; dsimp only; omega
theorem isin_perm {l l' : List Rg} (h : l.Perm l') (r : Int) : isin r l ↔ isin r l' := by
  rw [isin_iff, isin_iff]
  exact ⟨fun ⟨g, hg, x⟩ => ⟨g, h.mem_iff.1 hg, x⟩, fun ⟨g, hg, x⟩ => ⟨g, h.mem_iff.2 hg, x⟩⟩
/-- Whatever way the ranges were put in order: merged they are one list. -/
theorem mrg_any {l l' : List Rg} (h : srt 0 l) (h' : srt 0 l') (hp : ∀ r, isin r l ↔ isin r l') : mrg l = mrg l' :=
  nf_one (mrg_nf h) (mrg_nf h') (fun r => by rw [mrg_in h, mrg_in h', hp])

/-- The other side, from a number on. -/
def ntF (lo : Int) : List Rg → List Rg
  | [] => if lo ≤ top then [(lo, top)] else []
  | g :: t => if lo < g.1 then (lo, g.1 - 1) :: ntF (g.2 + 1) t else ntF (g.2 + 1) t
theorem ntF_nf : ∀ {l : List Rg} {lo b c : Int}, nfF b l → b ≤ lo + 1 → lo ≤ b → c ≤ lo → nfF c (ntF lo l)
  | [], lo, b, c, _, _, _, hc => by
    unfold ntF
    split
    · exact ⟨hc, by omega, Int.le_refl _, trivial⟩
    · trivial
  | g :: t, lo, b, c, hn, h1, h2, hc => by
    obtain ⟨n1, n2, n3, n4⟩ := hn
    unfold ntF
    split
    · exact ⟨hc, by omega, by dsimp only; omega, ntF_nf n4 (by omega) (by omega) (by dsimp only; omega)⟩
    · exact ntF_nf n4 (by omega) (by omega) (by omega)
theorem ntF_in : ∀ {l : List Rg} {lo b : Int} (r : Int), nfF b l → lo ≤ b → (isin r (ntF lo l) ↔ lo ≤ r ∧ r ≤ top ∧ ¬ isin r l)
  | [], lo, b, r, _, _ => by
    unfold ntF
    split
    · simp [isin]
    · rename_i h
      simp only [isin, not_false_eq_true, and_true, false_iff]
      omega
  | g :: t, lo, b, r, hn, h2 => by
    obtain ⟨n1, n2, n3, n4⟩ := hn
    have ih := ntF_in (lo := g.2 + 1) r n4 (by omega)
    have key : ∀ x : Int, isin x t → g.2 + 2 ≤ x := fun x hx => isin_ge n4 hx
    unfold ntF
    split
    · show ((lo ≤ r ∧ r ≤ g.1 - 1) ∨ isin r (ntF (g.2 + 1) t)) ↔ _
      rw [ih]
      show _ ↔ lo ≤ r ∧ r ≤ top ∧ ¬ ((g.1 ≤ r ∧ r ≤ g.2) ∨ isin r t)
      constructor
      · rintro (⟨a, b⟩ | ⟨a, b, c⟩)
        · exact ⟨a, by omega, fun h => h.elim (fun ⟨x, _⟩ => by omega) (fun x => by have := key r x; omega)⟩
        · exact ⟨by omega, b, fun h => h.elim (fun ⟨_, x⟩ => by omega) c⟩
      · rintro ⟨a, b, c⟩
        rcases Int.lt_or_le r g.1 with hr | hr
        · exact Or.inl ⟨a, by omega⟩
        · refine Or.inr ⟨?_, b, fun x => c (Or.inr x)⟩
          rcases Int.lt_or_le g.2 r with hr2 | hr2
          · omega
          · exact (c (Or.inl ⟨hr, hr2⟩)).elim
    · rw [ih]
      show _ ↔ lo ≤ r ∧ r ≤ top ∧ ¬ ((g.1 ≤ r ∧ r ≤ g.2) ∨ isin r t)
      constructor
      · rintro ⟨a, b, c⟩
        exact ⟨by omega, b, fun h => h.elim (fun ⟨_, x⟩ => by omega) c⟩
      · rintro ⟨a, b, c⟩
        refine ⟨?_, b, fun x => c (Or.inr x)⟩
        rcases Int.lt_or_le g.2 r with hr2 | hr2
        · omega
        · exact (c (Or.inl ⟨by omega, hr2⟩)).elim
end Go.Proofs.YtohhokjlgihbgaaGreatDoor
/- Lists of ranges in memory; the contracts of Same (the document's), of Has and of Is (package runes), of Has (the document's). -/
namespace Go.Proofs.YtohhokjlgihbgaaGreatDoor
open Go.RowKit

theorem add_blk (a : Addr) (k : Nat) : (a.add k).block = a.block := by unfold Addr.add; split <;> rfl
/-- A slice of ranges, nil or not, reads as a list. -/
def RdR (w : World) (ao : Option Addr) (l : List Rg) : Prop :=
  ∀ (k : Nat) (g : Rg), l[k]? = some g → ∃ a : Addr, ao = some a ∧ a.block < w.heap.size ∧ w.cell? (a.add (k * 2)) = some (.int .i32 g.1) ∧ w.cell? ⟨(a.add (k * 2)).block, (a.add (k * 2)).off + 1, none⟩ = some (.int .i32 g.2)
theorem RdR.below {w w' : World} {ao : Option Addr} {l : List Rg} (h : RdR w ao l) (hb : Below w.heap.size w w') : RdR w' ao l := fun k g hk => by
  obtain ⟨a, h1, h2, h3, h4⟩ := h k g hk
  exact ⟨a, h1, Nat.lt_of_lt_of_le h2 hb.size, (hb.cell (p := a.add (k * 2)) (by rw [add_blk]; exact h2)).trans h3, (hb.cell (p := ⟨(a.add (k * 2)).block, (a.add (k * 2)).off + 1, none⟩) (show (a.add (k * 2)).block < _ by rw [add_blk]; exact h2)).trans h4⟩

set_option maxHeartbeats 1000000 in
theorem same_any (ao bo : Option Addr) (ac bc : Nat) (l : List Rg) (w : World) (ha : RdR w ao l) (hb : RdR w bo l) (hl : l.length ≤ 1000000000000) :
    Calls Tryz.prog 27 #[.slice ao l.length ac, .slice bo l.length bc] w fun e w' => e = .returned (.bool true) ∧ Below w.heap.size w w' := by
  have HA := hid ha
  have HB := hid hb
  clear ha hb
  go_enter Tryz.func27, Tryz.ntmps27
  go_wp2
  go_loopw [5] (fun i wr => ∃ k : Nat, k ≤ l.length ∧ i = .int .i64 k ∧ Below w.heap.size w wr) (fun i _ => l.length - (intOf i).toNat)
  case atStart => exact ⟨0, by omega, rfl, Below.refl _ _⟩
  case round =>
    obtain ⟨k, hk, rfl, hBr⟩ := hrel
    by_cases hlt : k < l.length
    · obtain ⟨a, rfl, ha, a0, a1⟩ := HA.out.below hBr k l[k] (List.getElem?_eq_getElem hlt)
      obtain ⟨b, rfl, hb, b0, b1⟩ := HB.out.below hBr k l[k] (List.getElem?_eq_getElem hlt)
      generalize l[k].1 = z0 at *
      generalize l[k].2 = z1 at *
      go_wp2_with fail
      go_region
      go_wp2
      go_roundw
      case rel => exact ⟨k + 1, by omega, by go_num, hBr.drew⟩
      case measure => simp [intOf]; omega
    · go_wp2
      go_ret
      exact ⟨rfl, hBr⟩

/-- Whether a number is in one of the ranges. -/
def hasB (r : Int) (l : List Rg) : Bool := l.any fun g => decide (g.1 ≤ r) && decide (r ≤ g.2)
theorem hasB_iff (r : Int) (l : List Rg) : hasB r l = true ↔ isin r l := by
  unfold hasB
  rw [isin_iff, List.any_eq_true]
  simp
def hasR (r : Int) (l : List Rg) : Bool := decide (0 ≤ r) && (decide (r ≤ top) && hasB r l)
theorem hasR_iff (r : Int) (l : List Rg) : hasR r l = true ↔ means r l := by
  unfold hasR means
  rw [Bool.and_eq_true, Bool.and_eq_true, decide_eq_true_iff, decide_eq_true_iff, hasB_iff]
theorem any_take (r : Int) (l : List Rg) (k : Nat) (hk : k < l.length) (h : hasB r (l.take k) = false) : hasB r (l.take (k + 1)) = (decide (l[k].1 ≤ r) && decide (r ≤ l[k].2)) := by
  unfold hasB at *
  rw [List.take_succ_eq_append_getElem hk, List.any_append, h]
  simp
theorem any_yes (r : Int) (l : List Rg) (k : Nat) (hk : k < l.length) (h : (decide (l[k].1 ≤ r) && decide (r ≤ l[k].2)) = true) : hasB r l = true := by
  unfold hasB
  rw [List.any_eq_true]
  exact ⟨l[k], List.getElem_mem hk, h⟩

end Go.Proofs.YtohhokjlgihbgaaGreatDoor
/- Names in memory: a list of texts, and the map of texts to their numbers. -/
namespace Go.Proofs.YtohhokjlgihbgaaGreatDoor
open Go.RowKit Go.Maps Go.WideMaps

theorem law9 : Keyed Tryz.prog 9 := string_keyed Tryz.underlying9
def nky (l : List UInt8) : Lit := .string l
theorem keyOf_nm (l : List UInt8) (h : l.length ≤ 9223372036854775807) : keyOf Tryz.prog 9 (.string ⟨l.toArray⟩) = some (nky l) := by
  have h5 : (⟨l.toArray⟩ : ByteArray).size ≤ maxLen := by
    show l.toArray.size ≤ _
    unfold maxLen
    simpa using h
  rw [keyOf_string_mk Tryz.underlying9 h5]
  rfl
theorem nky_inj {a b : List UInt8} (h : nky a = nky b) : a = b := by unfold nky at h; injection h
theorem nky_key (b : List UInt8) : WideAt.IsKeyLit (nky b) := by unfold nky; trivial
/-- The map of names to their numbers. -/
def ndF {H : Type} : Nat → DataW H → List (List UInt8) → DataW H
  | _, D, [] => D
  | i, D, b :: U => ndF (i + 1) (D.put (nky b) (.lit (.int .i64 (i : Int)))) U
def ndc {H : Type} (U : List (List UInt8)) : DataW H := ndF 0 (.map []) U
theorem ndF_app {H : Type} : ∀ (U V : List (List UInt8)) (i : Nat) (D : DataW H), ndF i D (U ++ V) = ndF (i + U.length) (ndF i D U) V
  | [], V, i, D => rfl
  | b :: U, V, i, D => by
    show ndF (i + 1) _ (U ++ V) = _
    rw [ndF_app U V (i + 1), List.length_cons, show i + 1 + U.length = i + (U.length + 1) by omega]
    rfl
theorem ndc_snoc {H : Type} (U : List (List UInt8)) (b : List UInt8) : (ndc (U ++ [b]) : DataW H) = (ndc U).put (nky b) (.lit (.int .i64 (U.length : Int))) := by
  unfold ndc
  rw [ndF_app, Nat.zero_add]; rfl
theorem isMap_put {H : Type} {D : DataW H} (h : IsMap D) (k : Lit) (d : DataW H) : IsMap (D.put k d) := by
  obtain ⟨es, rfl⟩ := h
  exact ⟨_, rfl⟩
theorem ndc_map {H : Type} : ∀ (n : Nat) (U : List (List UInt8)), U.length = n → IsMap (ndc U : DataW H)
  | 0, U, h => by
    have : U = [] := List.length_eq_zero_iff.1 h
    subst this
    exact ⟨[], rfl⟩
  | n + 1, U, h => by
    rcases List.eq_nil_or_concat U with rfl | ⟨V, b, rfl⟩
    · simp at h
    · rw [List.concat_eq_append, ndc_snoc]
      exact isMap_put (ndc_map n V (by simp at h; exact h)) _ _
theorem ndc_has {H : Type} : ∀ (n : Nat) (U : List (List UInt8)) (b : List UInt8), U.length = n → Maps.has (ndc U : DataW H) (nky b) = decide (b ∈ U)
  | 0, U, b, h => by
    have : U = [] := List.length_eq_zero_iff.1 h
    subst this
    simp [ndc, ndF, Maps.has]
  | n + 1, U, b, h => by
    rcases List.eq_nil_or_concat U with rfl | ⟨V, c, rfl⟩
    · simp at h
    · rw [List.concat_eq_append] at *
      have hV : V.length = n := by simp at h; exact h
      have ih := ndc_has (H := H) n V b hV
      rw [ndc_snoc]
      by_cases e : b = c
      · subst e
        rw [has_put_same (ndc_map n V hV) (nky_key b)]
        simp
      · rw [has_put_other (fun h2 => e (nky_inj h2)), ih]
        simp [e]
theorem ndc_at {H : Type} (z : DataW H) : ∀ (n : Nat) (U : List (List UInt8)) (b : List UInt8), U.length = n → U.Nodup → (ndc U : DataW H).atKey (nky b) z = if b ∈ U then .lit (.int .i64 (U.idxOf b : Int)) else z
  | 0, U, b, h, _ => by
    have : U = [] := List.length_eq_zero_iff.1 h
    subst this
    simp [ndc, ndF, DataW.atKey]
  | n + 1, U, b, h, hnd => by
    rcases List.eq_nil_or_concat U with rfl | ⟨V, c, rfl⟩
    · simp at h
    · rw [List.concat_eq_append] at *
      have hV : V.length = n := by simp at h; exact h
      rw [List.nodup_append] at hnd
      have ih := ndc_at z n V b hV hnd.1
      rw [ndc_snoc]
      by_cases e : b = c
      · subst e
        have hn : b ∉ V := fun hm => hnd.2.2 b hm b (by simp) rfl
        rw [atKey_put_same (ndc_map n V hV) (nky_key b), if_pos (by simp), List.idxOf_append, if_neg hn]
        simp
      · rw [atKey_put_other (fun h2 => e (nky_inj h2)), ih]
        by_cases hm : b ∈ V
        · rw [if_pos hm, if_pos (by simp [hm]), List.idxOf_append, if_pos hm]
        · rw [if_neg hm, if_neg (by simp [hm, e])]
theorem zero3 (w : World) : (zeroValue 3).run Tryz.prog w = .ok (.int .i64 0) w := by kernel_rfl
/-- Texts as cells. -/
def nms (l : List (List UInt8)) : List Value := l.map fun b => .string ⟨b.toArray⟩
theorem nms_len (l : List (List UInt8)) : (nms l).length = l.length := by simp [nms]
theorem nms_snoc (l : List (List UInt8)) (b : List UInt8) : nms (l ++ [b]) = nms l ++ [.string ⟨b.toArray⟩] := by simp [nms]
/-- A name's number, and the list with it. -/
def adn (b : List UInt8) (U : List (List UInt8)) : List (List UInt8) × Nat := if b ∈ U then (U, U.idxOf b) else (U ++ [b], U.length)
theorem adn_nodup (b : List UInt8) (U : List (List UInt8)) (h : U.Nodup) : (adn b U).1.Nodup := by
  unfold adn
  split
  · exact h
  · rename_i hn
    rw [List.nodup_append]
    refine ⟨h, by simp, fun a ha c hc => ?_⟩
    simp at hc
    subst hc
    exact fun e => hn (e ▸ ha)
/-- A database in memory. -/
structure DbAt (B P K : Nat) (U : List (List UInt8)) (nv pv : Value) (w : World) : Prop where
  hP : w.heap[P]? = some (.cells #[nv, .map (some K), pv] 76 (0, 0))
  hK : w.ownsMap (H := Unit) Tryz.prog 9 (plainElem Tryz.prog 3) K U.length (ndc U)
  hR : w.ownsRow B 9 1 nv U.length (nms U)
  bP : B ≤ P
  bK : B ≤ K
end Go.Proofs.YtohhokjlgihbgaaGreatDoor
/- The contracts of the document's Same (at any two lists) and Has. -/
namespace Go.Proofs.YtohhokjlgihbgaaGreatDoor
open Go.RowKit

theorem take_eq_step {l m : List Rg} {k : Nat} (hk : k < l.length) (hm : k < m.length) (h : l.take k = m.take k) (e : l[k] = m[k]) : l.take (k + 1) = m.take (k + 1) := by
  rw [List.take_succ_eq_append_getElem hk, List.take_succ_eq_append_getElem hm, h, e]

set_option maxHeartbeats 1000000 in
theorem same2_any (ao bo : Option Addr) (ac bc : Nat) (l m : List Rg) (w : World) (ha : RdR w ao l) (hb : RdR w bo m) (hl : l.length ≤ 1000000000000) :
    Calls Tryz.prog 27 #[.slice ao l.length ac, .slice bo m.length bc] w fun e w' => e = .returned (.bool (decide (l = m))) ∧ Below w.heap.size w w' := by
  have HA := hid ha
  have HB := hid hb
  clear ha hb
  by_cases hlm : l.length = m.length
  · have hne : ((l.length : Int) != (m.length : Int)) = false := by simp; omega
    go_enter Tryz.func27, Tryz.ntmps27
    have HLM := hid hlm
    clear hlm
    go_wp2
    go_loopw [5] (fun i wr => ∃ k : Nat, k ≤ l.length ∧ i = .int .i64 k ∧ Hid (l.take k = m.take k) ∧ Below w.heap.size w wr) (fun i _ => l.length - (intOf i).toNat)
    case atStart => exact ⟨0, by omega, rfl, rfl, Below.refl _ _⟩
    case round =>
      obtain ⟨k, hk, rfl, HE, hBr⟩ := hrel
      by_cases hlt : k < l.length
      · have hltm : k < m.length := by have := HLM.out; omega
        obtain ⟨a, rfl, ha, a0, a1⟩ := HA.out.below hBr k l[k] (List.getElem?_eq_getElem hlt)
        obtain ⟨b, rfl, hb, b0, b1⟩ := HB.out.below hBr k m[k] (List.getElem?_eq_getElem hltm)
        have HS := hid (fun e => take_eq_step hlt hltm HE.out e)
        have HD := hid (show l[k] ≠ m[k] → decide (l = m) = false from fun hne => decide_eq_false (fun e => hne (by subst e; rfl)))
        have HX := hid (show l[k].1 = m[k].1 → l[k].2 = m[k].2 → l[k] = m[k] from fun h1 h2 => Prod.ext h1 h2)
        have HX1 := hid (fun h : l[k] = m[k] => congrArg Prod.fst h)
        have HX2 := hid (fun h : l[k] = m[k] => congrArg Prod.snd h)
        obtain ⟨x0, e0⟩ : ∃ x0, x0 = l[k].1 := ⟨_, rfl⟩
        obtain ⟨x1, e1⟩ : ∃ x1, x1 = l[k].2 := ⟨_, rfl⟩
        obtain ⟨y0, f0⟩ : ∃ y0, y0 = m[k].1 := ⟨_, rfl⟩
        obtain ⟨y1, f1⟩ : ∃ y1, y1 = m[k].2 := ⟨_, rfl⟩
        rw [← e0] at a0 HX HX1
        rw [← e1] at a1 HX HX2
        rw [← f0] at b0 HX HX1
        rw [← f1] at b1 HX HX2
        clear e0 e1 f0 f1
        by_cases q0 : x0 = y0
        · by_cases q1 : x1 = y1
          · have HZ := hid (HS.out (HX.out q0 q1))
            subst q0 q1
            clear HS HD HX HX1 HX2
            go_wp2_with fail
            go_region
            go_wp2
            go_roundw
            case rel => exact ⟨k + 1, by omega, by go_num, HZ, hBr.drew⟩
            case measure => simp [intOf]; omega
          · have HZ := hid (HD.out (fun h => q1 (HX2.out h)))
            have t1 : (x1 == y1) = false := beq_eq_false_iff_ne.2 q1
            have t2 : (x1 != y1) = true := bne_iff_ne.2 q1
            clear HS HD HX HX1 HX2
            go_wp2_with fail
            go_region
            go_wp2
            go_ret
            exact ⟨by rw [HZ.out]; rfl, hBr.drew⟩
        · have HZ := hid (HD.out (fun h => q0 (HX1.out h)))
          have t1 : (x0 == y0) = false := beq_eq_false_iff_ne.2 q0
          have t2 : (x0 != y0) = true := bne_iff_ne.2 q0
          clear HS HD HX HX1 HX2
          go_wp2_with fail
          go_region
          go_wp2
          go_ret
          exact ⟨by rw [HZ.out]; rfl, hBr.drew⟩
      · have HZ := hid (show decide (l = m) = true from decide_eq_true (by have h := HE.out; rw [List.take_of_length_le (by omega), List.take_of_length_le (by have := HLM.out; omega)] at h; exact h))
        go_wp2
        go_ret
        exact ⟨by rw [HZ.out]; rfl, hBr⟩
  · have hne : ((l.length : Int) != (m.length : Int)) = true := by simp; omega
    have HZ := hid (show decide (l = m) = false from decide_eq_false (fun e => hlm (by rw [e])))
    clear hlm
    go_enter Tryz.func27, Tryz.ntmps27
    go_wp2
    go_ret
    exact ⟨by rw [HZ.out]; rfl, Below.refl _ _⟩

set_option maxHeartbeats 1000000 in
theorem rhas_any (ao : Option Addr) (ac : Nat) (l : List Rg) (r : Int) (w : World) (ha : RdR w ao l) (hl : l.length ≤ 1000000000000) :
    Calls Tryz.prog 23 #[.slice ao l.length ac, .int .i32 r] w fun e w' => e = .returned (.bool (hasR r l)) ∧ w' = w := by
  have HA := hid ha
  clear ha
  go_enter Tryz.func23, Tryz.ntmps23
  go_wp2
  go_loopw [5] (fun i wr => ∃ k : Nat, k ≤ l.length ∧ i = .int .i64 k ∧ Hid (hasR r (l.take k) = false) ∧ wr = w) (fun i _ => l.length - (intOf i).toNat)
  case atStart => exact ⟨0, by omega, rfl, by show hasR r [] = false; simp [hasR, hasB], rfl⟩
  case round =>
    obtain ⟨k, hk, rfl, HN, hwr⟩ := hrel
    obtain rfl := hwr.symm
    clear hwr
    by_cases hlt : k < l.length
    · obtain ⟨a, rfl, ha, a0, a1⟩ := HA.out k l[k] (List.getElem?_eq_getElem hlt)
      have HY := hid (any_yes r l k hlt)
      have HT := hid (any_take r l k hlt)
      generalize l[k].1 = z0 at *
      generalize l[k].2 = z1 at *
      by_cases h0 : 0 ≤ r
      · by_cases h1 : r ≤ 1114111
        · have HN' := hid (show hasB r (l.take k) = false by have h := HN.out; unfold hasR top at h; simpa [h0, h1] using h)
          by_cases e1 : z0 ≤ r
          · by_cases e2 : r ≤ z1
            · have HZ := hid (show hasR r l = true by unfold hasR top; rw [HY.out (by simp [e1, e2])]; simp [h0, h1])
              go_wp2
              go_ret
              exact ⟨by rw [HZ.out]; rfl, rfl⟩
            · have HZ := hid (show hasR r (l.take (k + 1)) = false by unfold hasR; rw [HT.out HN'.out]; simp; omega)
              go_wp2
              go_roundw
              case rel => exact ⟨k + 1, by omega, by go_num, HZ, by first | rfl | trivial⟩
              case measure => simp [intOf]; omega
          · have HZ := hid (show hasR r (l.take (k + 1)) = false by unfold hasR; rw [HT.out HN'.out]; simp; omega)
            go_wp2
            go_roundw
            case rel => exact ⟨k + 1, by omega, by go_num, HZ, by first | rfl | trivial⟩
            case measure => simp [intOf]; omega
        · have HZ := hid (show hasR r (l.take (k + 1)) = false by unfold hasR top; simp [h1])
          go_wp2
          go_roundw
          case rel => exact ⟨k + 1, by omega, by go_num, HZ, by first | rfl | trivial⟩
          case measure => simp [intOf]; omega
      · have HZ := hid (show hasR r (l.take (k + 1)) = false by unfold hasR; simp [h0])
        go_wp2
        go_roundw
        case rel => exact ⟨k + 1, by omega, by go_num, HZ, by first | rfl | trivial⟩
        case measure => simp [intOf]; omega
    · have HZ := hid (show hasR r l = false by have h := HN.out; rw [List.take_of_length_le (by omega)] at h; exact h)
      go_wp2
      go_ret
      exact ⟨by rw [HZ.out]; rfl, rfl⟩
end Go.Proofs.YtohhokjlgihbgaaGreatDoor
/- The contract of Is (package runes): whether a list is in normal form. -/
namespace Go.Proofs.YtohhokjlgihbgaaGreatDoor
open Go.RowKit

/-- In normal form, as a test. -/
def nfB (b : Int) : List Rg → Bool
  | [] => true
  | g :: l => decide (b ≤ g.1) && (decide (g.1 ≤ g.2) && (decide (g.2 ≤ top) && nfB (g.2 + 2) l))
theorem nfB_iff : ∀ (l : List Rg) (b : Int), nfB b l = true ↔ nfF b l
  | [], _ => by simp [nfB, nfF]
  | g :: l, b => by simp [nfB, nfF, nfB_iff l]
theorem drop_nf (l : List Rg) (k : Nat) (b : Int) (hk : k < l.length) : nfB b (l.drop k) = (decide (b ≤ l[k].1) && (decide (l[k].1 ≤ l[k].2) && (decide (l[k].2 ≤ top) && nfB (l[k].2 + 2) (l.drop (k + 1))))) := by
  rw [List.drop_eq_getElem_cons hk]; rfl

end Go.Proofs.YtohhokjlgihbgaaGreatDoor
/- The contract of the document's put: a range more in a list by rising first numbers. -/
namespace Go.Proofs.YtohhokjlgihbgaaGreatDoor
open Go.RowKit

theorem Tryz.info84 : (Tryz.prog.info? 84).map (fun i => (i.zero, i.size, i.bytes)) = some (some (.agg #[.int .i32 0, .int .i32 0]), 2, 8) := by kernel_rfl
/-- The cells of a range. -/
def rgc (g : Rg) : List Value := [.int .i32 g.1, .int .i32 g.2]
def rgcs (l : List Rg) : List Value := l.flatMap rgc
theorem rgcs_snoc (l : List Rg) (g : Rg) : rgcs (l ++ [g]) = rgcs l ++ rgc g := by simp [rgcs]
theorem rgcs_len : ∀ l : List Rg, (rgcs l).length = l.length * 2
  | [] => rfl
  | g :: l => by
    show (rgc g ++ rgcs l).length = _
    rw [List.length_append, rgcs_len l, List.length_cons]
    show 2 + _ = _
    omega
theorem rgc_one (g : Rg) : ∀ u ∈ rgc g, u.oneCell' = true := by intro u hu; simp [rgc] at hu; rcases hu with rfl | rfl <;> rfl
theorem rgcs_get : ∀ (l : List Rg) (k : Nat) (g : Rg), l[k]? = some g → (rgcs l)[k * 2]? = some (.int .i32 g.1) ∧ (rgcs l)[k * 2 + 1]? = some (.int .i32 g.2)
  | [], _, _, h => by cases h
  | x :: l, 0, g, h => by cases h; exact ⟨rfl, rfl⟩
  | x :: l, k + 1, g, h => by
    have ih := rgcs_get l k g h
    have e1 : (k + 1) * 2 = k * 2 + 2 := by omega
    show (rgc x ++ rgcs l)[(k + 1) * 2]? = _ ∧ (rgc x ++ rgcs l)[(k + 1) * 2 + 1]? = _
    rw [e1, List.getElem?_append_right (by simp [rgc]), List.getElem?_append_right (by simp [rgc])]
    simpa [rgc] using ih
theorem rgcs_set : ∀ (l : List Rg) (i : Nat) (g : Rg), i < l.length → ((rgcs l).set (i * 2) (.int .i32 g.1)).set (i * 2 + 1) (.int .i32 g.2) = rgcs (l.set i g)
  | [], _, _, h => by simp at h
  | x :: l, 0, g, _ => rfl
  | x :: l, i + 1, g, h => by
    have ih := rgcs_set l i g (by simpa using h)
    have e1 : (i + 1) * 2 = i * 2 + 2 := by omega
    show ((rgc x ++ rgcs l).set ((i + 1) * 2) _).set ((i + 1) * 2 + 1) _ = rgc x ++ rgcs (l.set i g)
    rw [← ih, e1]
    rfl

/-- What a row of the call's own reads. -/
theorem row_reads {w : World} {B : Nat} {v : Value} {l : List Rg} (h : w.ownsRow B 84 2 v l.length (rgcs l)) : ∃ ao cap, v = .slice ao l.length cap ∧ (0 < l.length → ∃ g, ao = some ⟨g, 0, none⟩ ∧ B ≤ g ∧ g < w.heap.size) ∧
    ∀ (k : Nat) (x : Rg), l[k]? = some x → ∃ g, ao = some ⟨g, 0, none⟩ ∧ g < w.heap.size ∧ w.cell? ⟨g, k * 2, none⟩ = some (.int .i32 x.1) ∧ w.cell? ⟨g, k * 2 + 1, none⟩ = some (.int .i32 x.2) := by
  rcases h.2 with ⟨h1, h2⟩ | ⟨g, cap, cur, h1, h2, h3, h4, h5, h6, h7⟩
  · have hl : l = [] := List.length_eq_zero_iff.1 h2
    subst hl
    exact ⟨none, 0, h1, fun h => by simp at h, fun k x hk => by cases hk⟩
  · have hg := (Array.getElem?_eq_some_iff.1 h3).1
    refine ⟨some ⟨g, 0, none⟩, cap, h1, fun _ => ⟨g, rfl, h2, hg⟩, fun k x hk => ⟨g, rfl, hg, ?_⟩⟩
    obtain ⟨e1, e2⟩ := rgcs_get l k x hk
    have hc : ∀ j u, (rgcs l)[j]? = some u → w.cell? ⟨g, j, none⟩ = some u := fun j u hj => by
      have := h.cells (g := g) (by rw [h1]; rfl) j u hj
      rw [show (⟨g, 0, none⟩ : Addr).add j = ⟨g, j, none⟩ by unfold Addr.add; split <;> simp_all] at this
      exact this
    exact ⟨hc _ _ e1, hc _ _ e2⟩
theorem row_frozen {w : World} {B g n cap : Nat} {l : List Rg} (h : w.ownsRow B 84 2 (.slice (some ⟨g, 0, none⟩) n cap) l.length (rgcs l)) (j : Nat) : w.frozen? ⟨g, j, none⟩ = false := by
  rcases h.2 with ⟨h1, _⟩ | ⟨g', cap', cur, h1, _, h3, _⟩
  · cases h1
  · cases h1
    exact frozen_of_row w g j cur 84 h3
/-- One element of a row of the call's own is written. -/
theorem row_set {w : World} {B g n cap : Nat} {l : List Rg} (h : w.ownsRow B 84 2 (.slice (some ⟨g, 0, none⟩) n cap) l.length (rgcs l)) (i : Nat) (x : Rg) (hi : i < l.length) :
    ((w.setCell ⟨g, i * 2, none⟩ (.int .i32 x.1)).setCell ⟨g, i * 2 + 1, none⟩ (.int .i32 x.2)).ownsRow B 84 2 (.slice (some ⟨g, 0, none⟩) n cap) (l.set i x).length (rgcs (l.set i x)) := by
  rcases h.2 with ⟨h1, _⟩ | ⟨g', cap', cur, h1, h2, h3, h4, h5, h6, h7⟩
  · cases h1
  · cases h1
    have s1 := Lib.heap_setCell_same (i := i * 2) h3 (.int .i32 x.1)
    have s2 := Lib.heap_setCell_same (i := i * 2 + 1) s1 (.int .i32 x.2)
    rw [List.length_set]
    refine ⟨?_, Or.inr ⟨g, cap, _, rfl, h2, s2, h4, h5, by simp [h6], ?_⟩⟩
    · rw [rgcs_len, List.length_set]
    · rw [← rgcs_set l i x hi, ← h7]
      simp [List.take_set]
end Go.Proofs.YtohhokjlgihbgaaGreatDoor
/- The walk of the document's put. -/
namespace Go.Proofs.YtohhokjlgihbgaaGreatDoor
open Go.RowKit

theorem news_r (w : World) (g : Rg) (T : TypeId) : ∀ j u, (rgc g)[j]? = some u → (w.alloc (.cells #[.int .i32 g.1, .int .i32 g.2] T)).cell? ((⟨w.heap.size, 0, none⟩ : Addr).add j) = some u := fun j u hj => by
  rw [show (⟨w.heap.size, 0, none⟩ : Addr).add j = ⟨w.heap.size, j, none⟩ by unfold Addr.add; split <;> simp_all]
  rw [cell_of_row _ w.heap.size j #[.int .i32 g.1, .int .i32 g.2] T (0, 0) (show (w.heap.push _)[w.heap.size]? = _ by simp)]
  rw [← hj]
  simp [rgc]

/-- The list with a hole that is filled at a place. -/
def hole (l : List Rg) (i : Nat) (y : Rg) : List Rg := l.take i ++ y :: l.drop i
theorem hole_len (l : List Rg) (i : Nat) (y : Rg) (h : i ≤ l.length) : (hole l i y).length = l.length + 1 := by unfold hole; simp; omega
theorem hole_end (l : List Rg) (y : Rg) : hole l l.length y = l ++ [y] := by unfold hole; simp
theorem hole_get (l : List Rg) (i k : Nat) (y : Rg) (h : i ≤ l.length) (hk : k < i) : (hole l i y)[k]? = l[k]? := by
  unfold hole
  rw [List.getElem?_append_left (by rw [List.length_take]; omega), List.getElem?_take_of_lt hk]
theorem hole_set (l : List Rg) (i : Nat) (y x : Rg) (h : i ≤ l.length) : (hole l i y).set i x = hole l i x := by
  unfold hole
  rw [List.set_append_right _ _ (by rw [List.length_take]; omega)]
  have : i - (l.take i).length = 0 := by rw [List.length_take]; omega
  rw [this]; rfl
theorem hole_step (l : List Rg) (i : Nat) (h : i + 1 ≤ l.length) : hole l (i + 1) l[i] = hole l i l[i] := by
  unfold hole
  rw [List.take_succ_eq_append_getElem (by omega), List.append_assoc, List.drop_eq_getElem_cons (show i < l.length by omega)]
  rfl

theorem hole_at (l : List Rg) (i : Nat) (y : Rg) (h : i ≤ l.length) : (hole l i y)[i]? = some y := by
  unfold hole
  rw [List.getElem?_append_right (by rw [List.length_take]; omega)]
  have : i - (l.take i).length = 0 := by rw [List.length_take]; omega
  rw [this]; rfl
theorem row_cell {w : World} {B g n cap : Nat} {l : List Rg} (h : w.ownsRow B 84 2 (.slice (some ⟨g, 0, none⟩) n cap) l.length (rgcs l)) (k : Nat) (x : Rg) (hk : l[k]? = some x) :
    w.cell? ⟨g, k * 2, none⟩ = some (.int .i32 x.1) ∧ w.cell? ⟨g, k * 2 + 1, none⟩ = some (.int .i32 x.2) := by
  obtain ⟨ao, cap', e, _, hc⟩ := row_reads h
  cases e
  obtain ⟨g', e', _, h1, h2⟩ := hc k x hk
  cases e'
  exact ⟨h1, h2⟩

set_option maxRecDepth 100000 in
set_option maxHeartbeats 3000000 in
theorem put_any (B : Nat) (v : Value) (l : List Rg) (x : Rg) (w : World) (h : w.ownsRow B 84 2 v l.length (rgcs l)) (hB : B ≤ w.heap.size) (hl : l.length ≤ 1000000) :
    Calls Tryz.prog 80 #[v, .agg #[.int .i32 x.1, .int .i32 x.2]] w fun e w' => ∃ (v' : Value) (p : Nat), e = .returned v' ∧ p ≤ l.length ∧ (∀ (j : Nat) (g : Rg), p ≤ j → l[j]? = some g → x.1 < g.1) ∧ (∀ (j : Nat) (g : Rg), j + 1 = p → l[j]? = some g → g.1 ≤ x.1) ∧
      w'.ownsRow B 84 2 v' (hole l p x).length (rgcs (hole l p x)) ∧ Below B w w' := by
  obtain ⟨i0, hi, hz0, hz1, hz2⟩ := info_parts Tryz.info84
  obtain ⟨x0, x1⟩ := x
  go_enter Tryz.func80, Tryz.ntmps80
  go_wp2_with (at_builtin; refine wpList_append_lies _ rfl _ _ 47 rfl B 84 i0 (.agg #[.int .i32 0, .int .i32 0]) 2 8 Tryz.underlying47 hi hz0 hz1 hz2 rfl (by decide) _ _ _ rfl ((h.alloc _).alloc _) ⟨w.heap.size + 1, 0, none⟩ 1 1 (rgc (x0, x1)) rfl rfl ?c1 ?c2 (by decide) ?c3 ?c4 ?c5 (w.heap.size + 1 + 1) (by simp) ?_)
  case c1 =>
    have hn := news_r (w.alloc (.cells #[.int .i32 x0, .int .i32 x1] 84)) (x0, x1) 84
    rw [World.size_alloc] at hn
    exact hn
  case c2 => exact rgc_one _
  case c3 => unfold maxLen; omega
  case c4 => omega
  case c5 => simp; omega
  intro g cap w1 o1 gr1 hlie hg1
  have hb1 : Below B w w1 := (((Below.refl B w).alloc hB _).alloc (by simp; omega) _).grown gr1 (by simp; omega) (fun k hk => (h.lt k hk).1)
  have hbox : w1.heap[w.heap.size]? = some (.cells #[.int .i32 x0, .int .i32 x1] 84 (0, 0)) := by
    rw [gr1.block w.heap.size (by simp; omega) (fun e => by have := (h.lt _ e.symm).2; omega), Below.heap_alloc _ _ _ (by simp)]
    show (w.heap.push _)[w.heap.size]? = _
    simp
  have o1' : w1.ownsRow B 84 2 (.slice (some ⟨g, 0, none⟩) (l.length + 1) cap) (hole l l.length (x0, x1)).length (rgcs (hole l l.length (x0, x1))) := by rw [hole_end, rgcs_snoc, List.length_append]; exact o1
  have hgne : g ≠ w.heap.size := by
    rcases hlie with e | e
    · have := (h.lt g e).2; omega
    · omega
  have hgB : B ≤ g := by
    rcases hlie with e | e
    · exact (h.lt g e).1
    · omega
  have HB1 := hid hb1
  have HBX := hid hbox
  clear hbox hb1 o1 gr1 hlie h hg1
  go_wp2
  go_loopw [5] (fun i wr => ∃ (k : Nat) (y : Rg), k ≤ l.length ∧ i = .int .i64 k ∧ Hid (wr.ownsRow B 84 2 (.slice (some ⟨g, 0, none⟩) (l.length + 1) cap) (hole l k y).length (rgcs (hole l k y))) ∧ Hid (∀ (j : Nat) (z : Rg), k ≤ j → l[j]? = some z → x0 < z.1) ∧ Hid (wr.heap[w.heap.size]? = some (.cells #[.int .i32 x0, .int .i32 x1] 84 (0, 0))) ∧ Hid (Below B w wr)) (fun i _ => (intOf i).toNat)
  case atStart => exact ⟨l.length, (x0, x1), by omega, by go_num, o1', fun j z hj hz => (by rw [List.getElem?_eq_none hj] at hz; cases hz), HBX, HB1⟩
  case round =>
    obtain ⟨k, y, hk, rfl, HO, HG, HX, HB⟩ := hrel
    obtain ⟨p0, p1⟩ := row_cell HO.out k y (hole_at l k y hk)
    have q0 := row_frozen HO.out (k * 2)
    have q1 := row_frozen HO.out (k * 2 + 1)
    have b0 : wr.cell? ⟨w.heap.size, 0, none⟩ = some (.int .i32 x0) := by rw [cell_of_row wr w.heap.size 0 _ 84 (0, 0) HX.out]; rfl
    have b1 : wr.cell? ⟨w.heap.size, 1, none⟩ = some (.int .i32 x1) := by rw [cell_of_row wr w.heap.size 1 _ 84 (0, 0) HX.out]; rfl
    have HFIN := hid (show ((wr.setCell ⟨g, k * 2, none⟩ (.int .i32 x0)).setCell ⟨g, k * 2 + 1, none⟩ (.int .i32 x1)).ownsRow B 84 2 (.slice (some ⟨g, 0, none⟩) (l.length + 1) cap) (hole l k (x0, x1)).length (rgcs (hole l k (x0, x1))) by
      have := row_set HO.out k (x0, x1) (by rw [hole_len l k y hk]; omega)
      rw [hole_set l k y (x0, x1) hk] at this
      exact this)
    by_cases hk0 : k = 0
    · have t0 : decide ((0 : Int) < (k : Int)) = false := by simp; omega
      have t1 : ¬ 0 < k := by omega
      have HK0 := hid hk0
      clear hk0
      go_wp2_with fail
      go_quiet (fail)
      go_wp2
      go_ret
      exact ⟨_, k, rfl, hk, HG.out, fun j z hj => (by have := HK0.out; omega), HFIN.out, ((below_drewN HB.out _).setCell (p := ⟨g, k * 2, none⟩) hgB _).setCell (p := ⟨g, k * 2 + 1, none⟩) hgB _⟩
    · obtain ⟨j, hj⟩ : ∃ j, k = j + 1 := ⟨k - 1, by omega⟩
      have hjl : j < l.length := by omega
      have HLJ := hid (show l[j]? = some l[j] from List.getElem?_eq_getElem hjl)
      obtain ⟨r0, r1⟩ := row_cell HO.out j l[j] (by rw [hole_get l k j y hk (by omega)]; exact HLJ.out)
      have t0 : decide ((0 : Int) < (k : Int)) = true := by simp; omega
      have t1 : 0 < k := by omega
      have esub : (k : Int) - 1 = (j : Int) := by omega
      have ewr : IntKind.i64.wrap ((k : Int) - 1) = (j : Int) := by rw [IntKind.wrap_i64]; omega
      have ewr2 : IntKind.i64.wrap (j : Int) = (j : Int) := by rw [IntKind.wrap_i64]; omega
      have i1 : (0 : Int) ≤ (j : Int) := by omega
      have i2 : (j : Int) < (l.length : Int) + 1 := by omega
      have i3 : (k : Int) < (l.length : Int) + 1 := by omega
      have HSH := hid (show ((wr.setCell ⟨g, k * 2, none⟩ (.int .i32 l[j].1)).setCell ⟨g, k * 2 + 1, none⟩ (.int .i32 l[j].2)).ownsRow B 84 2 (.slice (some ⟨g, 0, none⟩) (l.length + 1) cap) (hole l j l[j]).length (rgcs (hole l j l[j])) by
        have := row_set HO.out k l[j] (by rw [hole_len l k y hk]; omega)
        rw [hole_set l k y l[j] hk] at this
        subst hj
        rw [hole_step l j (by omega)] at this
        exact this)
      have HLJ2 := hid (show ∀ z : Rg, l[j]? = some z → z.1 = l[j].1 from fun z hz => by rw [HLJ.out] at hz; cases hz; rfl)
      have HJ := hid hj
      obtain ⟨ej, hej⟩ : ∃ ej, ej = l[j] := ⟨_, rfl⟩
      rw [← hej] at r0 r1 HSH HLJ2
      clear hej hj hk0 HLJ
      obtain ⟨e0, e1⟩ := ej
      dsimp only at r0 r1 HSH HLJ2
      by_cases hgt : x0 < e0
      · have HXS := hid (show ((wr.setCell ⟨g, k * 2, none⟩ (.int .i32 e0)).setCell ⟨g, k * 2 + 1, none⟩ (.int .i32 e1)).heap[w.heap.size]? = some (.cells #[.int .i32 x0, .int .i32 x1] 84 (0, 0)) from ((Below.heap_setCell _ _ _ _ (show w.heap.size ≠ g from fun e => hgne e.symm)).trans (Below.heap_setCell _ _ _ _ (show w.heap.size ≠ g from fun e => hgne e.symm))).trans HX.out)
        clear HFIN
        go_wp2_with fail
        go_quiet (fail)
        go_wp2
        go_roundw
        case rel => exact ⟨j, (e0, e1), by omega, by go_num, HSH.out, fun jj z hjj hz => (by
          by_cases e : jj = j
          · subst e; rw [HLJ2.out z hz]; exact hgt
          · exact HG.out jj z (by have := HJ.out; omega) hz), HXS.out, ((below_drewN HB.out _).setCell (p := ⟨g, k * 2, none⟩) hgB _).setCell (p := ⟨g, k * 2 + 1, none⟩) hgB _⟩
        case measure => simp [intOf]; have := HJ.out; omega
      · clear HSH
        go_wp2_with fail
        go_quiet (fail)
        clear esub ewr ewr2 i1 i2 t0 r0 r1
        go_wp2
        go_ret
        exact ⟨_, k, rfl, hk, HG.out, fun jj z hjj hz => (by
          have e : jj = j := by have := HJ.out; omega
          subst e; rw [HLJ2.out z hz]; omega), HFIN.out, ((below_drewN HB.out _).setCell (p := ⟨g, k * 2, none⟩) hgB _).setCell (p := ⟨g, k * 2 + 1, none⟩) hgB _⟩
end Go.Proofs.YtohhokjlgihbgaaGreatDoor
