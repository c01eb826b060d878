/- Sets of states as automata tell them. -/
import Derived.Test.YteacehfihogmpaaDoorRunMath
import Derived.Shelf.Sort.Plain
import Derived.Shelf.Slices.In.SortNone
import Derived.Test.YteacehfihogmpaaDoorProg
import Derived.Test.YteacehfihogmpaaDoorClosed
import Derived.Test.YteacehfihogmpaaDoorRun
namespace Go.Proofs.YteacehfihogmpaaDoor

/-- The frees of all states. -/
def fls (L : List St) : List (List Int) := L.map (·.2)
theorem fls_at {L : List St} {k : Nat} {s : St} (h : L[k]? = some s) : (fls L)[k]? = some s.2 := by unfold fls; rw [List.getElem?_map, h]; rfl
/-- Where one comes from the states of A by a class. -/
def StA (L : List St) (A : Int → Prop) (c : Int) (t : Int) : Prop := ∃ y, A y ∧ ∃ s, L[y.toNat]? = some s ∧ ∃ e ∈ s.1, e.2 = t ∧ c ∈ e.1
theorem rch_fls {L : List St} {n : Nat} {FL : List (List Int)} (hl : FL.length = L.length) (h : ∀ (k : Nat) (s : St) (g : List Int), L[k]? = some s → FL[k]? = some g → FOk n s g) (A : Int → Prop) (x : Int) : Rch FL A x ↔ Rch (fls L) A x := by
  constructor
  · intro hx
    induction hx with
    | base h1 => exact .base h1
    | step _ h2 h3 ih =>
      rename_i y t l _
      have hk := (List.getElem?_eq_some_iff.1 h2).1
      have e : L[y.toNat]? = some L[y.toNat] := List.getElem?_eq_getElem (by omega)
      exact .step ih (fls_at e) (((h _ _ _ e h2).2 t).1 h3)
  · intro hx
    induction hx with
    | base h1 => exact .base h1
    | step _ h2 h3 ih =>
      rename_i y t l _
      unfold fls at h2
      rw [List.getElem?_map] at h2
      obtain ⟨s, hs, rfl⟩ := Option.map_eq_some_iff.1 h2
      have hk := (List.getElem?_eq_some_iff.1 hs).1
      have e : FL[y.toNat]? = some FL[y.toNat] := List.getElem?_eq_getElem (by omega)
      exact .step ih e (((h _ _ _ hs e).2 t).2 h3)
/-- The set of one class. -/
theorem and_onl {m : Nat} {c : Int} {oc : Nat} (h : oc = if 0 ≤ c ∧ c < 64 then 2 ^ c.toNat else 0) : m &&& oc ≠ 0 ↔ (0 ≤ c ∧ c < 64) ∧ m.testBit c.toNat = true := by
  by_cases hc : 0 ≤ c ∧ c < 64
  · rw [if_pos hc] at h
    subst h
    constructor
    · intro h
      refine ⟨hc, ?_⟩
      cases hb : m.testBit c.toNat with
      | true => rfl
      | false =>
        refine absurd ?_ h
        apply Nat.eq_of_testBit_eq
        intro i
        rw [Nat.testBit_and, Nat.testBit_two_pow, Nat.zero_testBit]
        by_cases e : c.toNat = i
        · rw [← e, hb]; rfl
        · simp [e]
    · rintro ⟨_, hb⟩ h0
      have h1 : (m &&& 2 ^ c.toNat).testBit c.toNat = true := by rw [Nat.testBit_and, hb, Nat.testBit_two_pow]; simp
      rw [h0] at h1
      simp at h1
  · rw [if_neg hc] at h
    subst h
    simp [hc]
theorem stp_sta {L : List St} {n : Nat} {WL : List (List Wy)} {N : List Int} {c : Int} {oc : Nat} (hl : WL.length = L.length) (h : ∀ (k : Nat) (s : St) (g : List Wy), L[k]? = some s → WL[k]? = some g → WOk n s g) (hoc : oc = if 0 ≤ c ∧ c < 64 then 2 ^ c.toNat else 0)
    (hcl : ∀ s ∈ L, ∀ e ∈ s.1, ∀ c ∈ e.1, 0 ≤ c ∧ c < (64 : Int)) (t : Int) : Stp WL N oc t ↔ StA L (· ∈ N) c t := by
  constructor
  · rintro ⟨s, hs, l, hl', x, hx, h1, h2⟩
    have hk := (List.getElem?_eq_some_iff.1 hl').1
    have e : L[s.toNat]? = some L[s.toNat] := List.getElem?_eq_getElem (by omega)
    rw [and_onl hoc] at h2
    obtain ⟨e', he', h3, h4⟩ := ((h _ _ _ e hl').tell t c.toNat).1 ⟨x, hx, h1, h2.2⟩
    exact ⟨s, hs, _, e, e', he', h3, by rw [show c = ((c.toNat : Nat) : Int) by omega]; exact h4⟩
  · rintro ⟨s, hs, st, hst, e, he, h1, h2⟩
    have hk := (List.getElem?_eq_some_iff.1 hst).1
    have eW : WL[s.toNat]? = some WL[s.toNat] := List.getElem?_eq_getElem (by omega)
    have hcb := hcl st (List.mem_of_getElem? hst) e he c h2
    obtain ⟨x, hx, h3, h4⟩ := ((h _ _ _ hst eW).tell t c.toNat).2 ⟨e, he, h1, by rw [show ((c.toNat : Nat) : Int) = c by omega]; exact h2⟩
    exact ⟨s, hs, _, eW, x, hx, h3, (and_onl hoc).2 ⟨hcb, h4⟩⟩
/-- What Closure tells, and Step; the sets while a list is read. -/
def Clo (L : List St) (A : Int → Prop) : Int → Prop := Rch (fls L) A
def Nxt (L : List St) (A : Int → Prop) (c : Int) : Int → Prop := Clo L (StA L A c)
def Rd (L : List St) (A : Int → Prop) (c : List Int) : Int → Prop := c.foldl (Nxt L) A
theorem Rd_snoc (L : List St) (A : Int → Prop) (c : List Int) (a : Int) : Rd L A (c ++ [a]) = Nxt L (Rd L A c) a := by unfold Rd; rw [List.foldl_append]; rfl
theorem StA.congr {L : List St} {A B : Int → Prop} (h : ∀ x, A x ↔ B x) (c t : Int) : StA L A c t ↔ StA L B c t :=
  ⟨fun ⟨y, h1, h2⟩ => ⟨y, (h y).1 h1, h2⟩, fun ⟨y, h1, h2⟩ => ⟨y, (h y).2 h1, h2⟩⟩
theorem Clo.congr {L : List St} {A B : Int → Prop} (h : ∀ x, A x ↔ B x) (t : Int) : Clo L A t ↔ Clo L B t := ⟨Rch.mono fun x => (h x).1, Rch.mono fun x => (h x).2⟩
theorem Nxt.congr {L : List St} {A B : Int → Prop} (h : ∀ x, A x ↔ B x) (c t : Int) : Nxt L A c t ↔ Nxt L B c t := Clo.congr (StA.congr h c) t
theorem Clo.self {L : List St} {A : Int → Prop} (t : Int) : Clo L (Clo L A) t ↔ Clo L A t := ⟨Rch.idem, fun h => .base h⟩
/-- What is reached lies among the states. -/
theorem Rch.bound {FL : List (List Int)} {A : Int → Prop} {n : Int} (hA : ∀ x, A x → 0 ≤ x ∧ x < n) (hF : ∀ l ∈ FL, ∀ t ∈ l, 0 ≤ t ∧ t < n) {x : Int} (h : Rch FL A x) : 0 ≤ x ∧ x < n := by
  induction h with
  | base h1 => exact hA _ h1
  | step _ h2 h3 _ => exact hF _ (List.mem_of_getElem? h2) _ h3
end Go.Proofs.YteacehfihogmpaaDoor
/- The library's sort, laid at this program. -/
namespace Go.Proofs
open Go.Shelf
def Tryd.lays189_ren : Go.Shelf.Ren := ⟨fun | 189 => 76 | 125 => 115 | 257 => 114 | 128 => 129 | 129 => 130 | 294 => 120 | 295 => 121 | 296 => 122 | 297 => 123 | 298 => 124 | 299 => 125 | 216 => 126 | 300 => 127 | 301 => 128 | 328 => 131 | 329 => 132 | 330 => 133 | 331 => 134 | 332 => 135 | 215 => 136 | 343 => 137 | n => n, fun | 28 => 22 | 3 => 3 | 46 => 141 | 0 => 0 | 51 => 155 | 53 => 96 | 4 => 4 | 183 => 149 | 182 => 148 | 131 => 52 | 5 => 5 | 9 => 9 | 218 => 156 | 222 => 160 | 228 => 162 | 229 => 47 | n => n, fun | n => n⟩
theorem Tryd.lays189 : Go.Proofs.Lays.n189 Tryd.prog Tryd.lays189_ren := {
  mixed := by kernel_rfl
  f125 := Tryd.func115.trans (congrArg some (by kernel_rfl))
  f128 := Tryd.func129.trans (congrArg some (by kernel_rfl))
  f129 := Tryd.func130.trans (congrArg some (by kernel_rfl))
  f189 := Tryd.func76.trans (congrArg some (by kernel_rfl))
  f215 := Tryd.func136.trans (congrArg some (by kernel_rfl))
  f216 := Tryd.func126.trans (congrArg some (by kernel_rfl))
  f257 := Tryd.func114.trans (congrArg some (by kernel_rfl))
  f294 := Tryd.func120.trans (congrArg some (by kernel_rfl))
  f295 := Tryd.func121.trans (congrArg some (by kernel_rfl))
  f296 := Tryd.func122.trans (congrArg some (by kernel_rfl))
  f297 := Tryd.func123.trans (congrArg some (by kernel_rfl))
  f298 := Tryd.func124.trans (congrArg some (by kernel_rfl))
  f299 := Tryd.func125.trans (congrArg some (by kernel_rfl))
  f300 := Tryd.func127.trans (congrArg some (by kernel_rfl))
  f301 := Tryd.func128.trans (congrArg some (by kernel_rfl))
  f328 := Tryd.func131.trans (congrArg some (by kernel_rfl))
  f329 := Tryd.func132.trans (congrArg some (by kernel_rfl))
  f330 := Tryd.func133.trans (congrArg some (by kernel_rfl))
  f331 := Tryd.func134.trans (congrArg some (by kernel_rfl))
  f332 := Tryd.func135.trans (congrArg some (by kernel_rfl))
  f343 := Tryd.func137.trans (congrArg some (by kernel_rfl))
  t0 := Tryd.underlying0
  a0 := Tryd.isAgg0
  z0 := Tryd.sizeOf0
  v0 := Tryd.zeroValue0
  t3 := Tryd.underlying3
  a3 := Tryd.isAgg3
  z3 := Tryd.sizeOf3
  v3 := Tryd.zeroValue3
  t4 := Tryd.underlying4
  a4 := Tryd.isAgg4
  z4 := Tryd.sizeOf4
  v4 := Tryd.zeroValue4
  t5 := Tryd.underlying5
  a5 := Tryd.isAgg5
  z5 := Tryd.sizeOf5
  v5 := Tryd.zeroValue5
  t9 := Tryd.underlying9
  a9 := Tryd.isAgg9
  z9 := Tryd.sizeOf9
  v9 := Tryd.zeroValue9
  t28 := Tryd.underlying22
  a28 := Tryd.isAgg22
  z28 := Tryd.sizeOf22
  v28 := Tryd.zeroValue22
  t46 := Tryd.underlying141
  a46 := Tryd.isAgg141
  z46 := Tryd.sizeOf141
  v46 := Tryd.zeroValue141
  t51 := Tryd.underlying155
  a51 := Tryd.isAgg155
  z51 := Tryd.sizeOf155
  v51 := Tryd.zeroValue155
  t53 := Tryd.underlying96
  a53 := Tryd.isAgg96
  z53 := Tryd.sizeOf96
  v53 := Tryd.zeroValue96
  t131 := Tryd.underlying52
  a131 := Tryd.isAgg52
  z131 := Tryd.sizeOf52
  v131 := Tryd.zeroValue52
  t182 := Tryd.underlying148
  a182 := Tryd.isAgg148
  z182 := Tryd.sizeOf148
  v182 := Tryd.zeroValue148
  t183 := Tryd.underlying149
  a183 := Tryd.isAgg149
  z183 := Tryd.sizeOf149
  v183 := Tryd.zeroValue149
  t218 := Tryd.underlying156
  a218 := Tryd.isAgg156
  z218 := Tryd.sizeOf156
  v218 := Tryd.zeroValue156
  t222 := Tryd.underlying160
  a222 := Tryd.isAgg160
  z222 := Tryd.sizeOf160
  v222 := Tryd.zeroValue160
  t228 := Tryd.underlying162
  a228 := Tryd.isAgg162
  z228 := Tryd.sizeOf162
  v228 := Tryd.zeroValue162
  t229 := Tryd.underlying47
  a229 := Tryd.isAgg47
  z229 := Tryd.sizeOf47
  v229 := Tryd.zeroValue47 }
open Go.Sort Go.RowKit in
theorem Tryd.slices_Sort_int (blk off cap : Nat) (zs : List Int) (w : World) (hH : Holds (Value.int .i64) w blk off zs.toArray) (hblk : blk < w.heap.size) (hsz : zs.length < 4611686018427387904) :
    Calls Tryd.prog 76 #[.slice (some ⟨blk, off, none⟩) zs.length cap] w fun e w' =>
      e = .returned (.tuple #[]) ∧ ∃ n os, w' = grow (putRow (Value.int .i64) (Sort.ahead w n) blk off (zs.mergeSort fun x y => decide (x ≤ y)).toArray) os := Any.slices_Sort_int Tryd.lays189 blk off cap zs w hH hblk hsz
open Go.RowKit Go.Sort in
theorem Tryd.slices_Sort_int_none (p : Option Addr) (cap : Nat) (w : World) :
    Calls Tryd.prog 76 #[.slice p 0 cap] w fun e w' => e = .returned (.tuple #[]) ∧ w' = w := Any.slices_Sort_int_none Tryd.lays189 p cap w
end Go.Proofs
/- The contract of slices.Sort at a row of the call's own. -/
namespace Go.Proofs.YteacehfihogmpaaDoor
open Go.RowKit Go.Sort

def srtd (S : List Int) : List Int := S.mergeSort fun x y => decide (x ≤ y)
theorem srtd_len (S : List Int) : (srtd S).length = S.length := List.length_mergeSort _
theorem srtd_mem (S : List Int) (x : Int) : x ∈ srtd S ↔ x ∈ S := List.mem_mergeSort
theorem srtd_le (S : List Int) : (srtd S).Pairwise (· ≤ ·) := by
  have h := List.pairwise_mergeSort (le := fun x y : Int => decide (x ≤ y)) (fun a b c h1 h2 => by simp at *; omega) (fun a b => by simp; omega) S
  exact h.imp fun h => by simpa using h
theorem srtd_lt (S : List Int) (hn : S.Nodup) : (srtd S).Pairwise (· < ·) := by
  have h1 := srtd_le S
  have h2 : (srtd S).Nodup := (List.mergeSort_perm S _).nodup_iff.2 hn
  rw [List.nodup_iff_pairwise_ne] at h2
  exact (h1.and h2).imp fun ⟨a, b⟩ => by omega
/-- Rising lists with the same members are the same. -/
theorem rising_eq : ∀ {a b : List Int}, a.Pairwise (· < ·) → b.Pairwise (· < ·) → (∀ x, x ∈ a ↔ x ∈ b) → a = b
  | [], [], _, _, _ => rfl
  | [], y :: b, _, _, h => by have := (h y).2 (.head _); simp at this
  | x :: a, [], _, _, h => by have := (h x).1 (.head _); simp at this
  | x :: a, y :: b, ha, hb, h => by
    rw [List.pairwise_cons] at ha hb
    have e : x = y := by
      have h1 := (h x).1 (.head _)
      have h2 := (h y).2 (.head _)
      rcases List.mem_cons.1 h1 with h1 | h1
      · exact h1
      · rcases List.mem_cons.1 h2 with h2 | h2
        · exact h2.symm
        · have := ha.1 y h2; have := hb.1 x h1; omega
    subst e
    rw [rising_eq ha.2 hb.2 fun z => ?_]
    constructor
    · intro hz
      rcases List.mem_cons.1 ((h z).1 (.tail _ hz)) with h1 | h1
      · have := ha.1 z hz; omega
      · exact h1
    · intro hz
      rcases List.mem_cons.1 ((h z).2 (.tail _ hz)) with h1 | h1
      · have := hb.1 z hz; omega
      · exact h1
theorem sort_own {B P ib : Nat} (vo : Option Addr) (m vc : Nat) (S : List Int) (w : World) (h : w.ownsRow B 3 1 (.slice vo m vc) m (i64s S)) (hm : m ≤ 1000000) :
    Calls Tryd.prog 76 #[.slice vo m vc] w fun e w' => e = .returned (.tuple #[]) ∧ w'.ownsRow B 3 1 (.slice vo m vc) m (i64s (srtd S)) ∧ Ch P ib (Value.slice vo m vc).ownBlock w w' := by
  have hl := own_len h
  by_cases h0 : m = 0
  · subst h0
    have hS : S = [] := List.eq_nil_of_length_eq_zero hl
    subst hS
    refine (Tryd.slices_Sort_int_none vo vc w).mono ?_
    rintro e w' ⟨rfl, rfl⟩
    exact ⟨rfl, by simpa [srtd] using h, Ch.refl _ _ _ _⟩
  · rcases h.2 with ⟨_, h1⟩ | ⟨g, cap, cur, hv, hB, hg, hmc, hcm, hcs, htk⟩
    · exact absurd h1 h0
    · simp only [Value.slice.injEq, true_and] at hv
      obtain ⟨rfl, rfl⟩ := hv
      have hH : Holds (Value.int .i64) w g 0 S.toArray := fun j hj => by
        have hj' : j < S.length := by simpa using hj
        have e : S[j]? = some S[j] := List.getElem?_eq_getElem hj'
        obtain ⟨g', hg', _, _, hc⟩ := own_at h e
        cases hg'
        rw [Nat.zero_add]
        refine ⟨?_, frozen_of_row w g j _ 3 hg⟩
        rw [hc]
        simp [hj']
      have hs := Tryd.slices_Sort_int g 0 vc S w hH (Array.getElem?_eq_some_iff.1 hg).1 (by omega)
      rw [hl] at hs
      refine hs.mono ?_
      rintro e w' ⟨rfl, n, os, rfl⟩
      have hheap : (grow (putRow (Value.int .i64) (Sort.ahead w n) g 0 (S.mergeSort fun x y => decide (x ≤ y)).toArray) os).heap = (putRow (Value.int .i64) w g 0 (srtd S).toArray).heap ++ os := rfl
      have hsz : (putRow (Value.int .i64) w g 0 (srtd S).toArray).heap.size = w.heap.size := by simp [putRow, mapBlock]
      have hgl := (Array.getElem?_eq_some_iff.1 hg).1
      have hgn : (grow (putRow (Value.int .i64) (Sort.ahead w n) g 0 (S.mergeSort fun x y => decide (x ≤ y)).toArray) os).heap[g]? = some (.cells (putCells (Value.int .i64) 0 (srtd S).toArray cur) 3) := by
        rw [hheap, Array.getElem?_append_left (by omega)]
        show (w.heap.modify g (onCells (putCells (Value.int .i64) 0 (srtd S).toArray)))[g]? = _
        rw [Array.getElem?_modify, if_pos rfl, hg]
        rfl
      refine ⟨rfl, ⟨by rw [i64s_len, srtd_len, hl]; omega, .inr ⟨g, vc, _, rfl, hB, hgn, hmc, hcm, ?_, ?_⟩⟩, ⟨rfl, rfl, rfl, ?_, fun k hk _ _ hne => ?_⟩⟩
      · simp [putCells]; omega
      · apply List.ext_getElem?
        intro k
        rw [List.getElem?_take]
        split
        · rename_i hk
          have hk' : k < (srtd S).length := by rw [srtd_len]; omega
          rw [i64s_at, List.getElem?_eq_getElem hk', Array.getElem?_toList]
          have hkc : k < cur.size := by omega
          simp [putCells, hkc, hk']
        · rename_i hk
          rw [i64s_at, List.getElem?_eq_none (by rw [srtd_len]; omega)]
          rfl
      · rw [hheap, Array.size_append]; omega
      · rw [hheap, Array.getElem?_append_left (by omega)]
        have : g ≠ k := fun e => hne (by rw [e]; rfl)
        simp [putRow, mapBlock, Array.getElem?_modify, this]
end Go.Proofs.YteacehfihogmpaaDoor
/- The contracts of good, Closure and Step (package nfa). -/
namespace Go.Proofs.YteacehfihogmpaaDoor
open Go.RowKit

/-- Is it an automaton? -/
def gdB (L : List St) (s f : Int) : Bool := (chk L s f).1 == 0
theorem fsb_zero {n : Int} : ∀ {L : List St} {i : Int}, (fsb n i L).1 = 0 → ∀ s ∈ L, fmd n s = true
  | [], _, _, _, h => by simp at h
  | x :: l, i, h, s, hs => by
    rcases Bool.eq_false_or_eq_true (fmd n x) with hx | hx
    · rw [fsb_ok hx] at h
      rcases List.mem_cons.1 hs with rfl | hs
      · exact hx
      · exact fsb_zero h s hs
    · rw [fsb_no hx] at h; simp at h
structure Gdd (L : List St) (s f : Int) : Prop where
  few : L.length ≤ 4096
  st : 0 ≤ s ∧ s < L.length
  fi : 0 ≤ f ∧ f < L.length
  all : ∀ x ∈ L, fmd L.length x = true
theorem gdd_of {L : List St} {s f : Int} (h : gdB L s f = true) : Gdd L s f := by
  unfold gdB at h
  have h' : (chk L s f).1 = 0 := by simpa using h
  by_cases h1 : 4096 < L.length
  · rw [chk_many h1] at h'; simp at h'
  · rcases Bool.eq_false_or_eq_true (wn s L.length) with hs | hs
    · rcases Bool.eq_false_or_eq_true (wn f L.length) with hf | hf
      · rw [chk_go h1 hs hf] at h'
        exact ⟨by omega, wn_iff.1 hs, wn_iff.1 hf, fsb_zero h'⟩
      · rw [chk_start h1 (.inr hf)] at h'; simp at h'
    · rw [chk_start h1 (.inl hs)] at h'; simp at h'
theorem Gdd.cls {L : List St} {s f : Int} (h : Gdd L s f) : ∀ s ∈ L, ∀ e ∈ s.1, ∀ c ∈ e.1, 0 ≤ c ∧ c < (64 : Int) := fun x hx e he c hc => by
  have h1 := h.all x hx
  unfold fmd at h1
  simp only [Bool.and_eq_true] at h1
  have := rs_all (edg_all h1.1 e he).2 c hc
  omega
theorem Gdd.tos {L : List St} {s f : Int} (h : Gdd L s f) : ∀ x ∈ L, ∀ e ∈ x.1, 0 ≤ e.2 ∧ e.2 < (L.length : Int) := fun x hx e he => by
  have h1 := h.all x hx
  unfold fmd at h1
  simp only [Bool.and_eq_true] at h1
  exact wn_iff.1 (edg_all h1.1 e he).1
theorem Gdd.frees {L : List St} {s f : Int} (h : Gdd L s f) : ∀ l ∈ fls L, ∀ t ∈ l, 0 ≤ t ∧ t < (L.length : Int) := fun l hl t ht => by
  unfold fls at hl
  obtain ⟨x, hx, rfl⟩ := List.mem_map.1 hl
  have h1 := h.all x hx
  unfold fmd at h1
  simp only [Bool.and_eq_true] at h1
  exact wn_iff.1 (fre_all h1.2 t ht)
theorem good_any (so : Option Addr) (sc n : Nat) (L : List St) (s f : Int) (w : World) (hn : n = L.length) (hs : RdS w so L) (hl : n ≤ most) :
    Calls Tryd.prog 63 #[.agg #[.slice so n sc, .int .i64 s, .int .i64 f]] w fun e w' => e = .returned (.bool (gdB L s f)) ∧ Below w.heap.size w w' := by
  have HS := hid hs
  have HN := hid hn
  have HL := hid hl
  clear hs hn hl
  go_enter Tryd.func63, Tryd.ntmps63
  go_wp2_with fail
  refine (check_any so sc n L s f _ HN.out (HS.out.below below_box) HL.out).mono ?_
  rintro e w1 ⟨rfl, b1⟩
  have HB := hid (box_trans (show Below (w.heap.size + 1) (w.alloc (.cells #[.slice so n sc, .int .i64 s, .int .i64 f] 28)) w1 by simpa using b1))
  have HG := hid (show gdB L s f = ((chk L s f).1 == 0) from rfl)
  clear b1
  go_wp2
  go_ret
  exact ⟨by rw [HG.out]; rfl, HB.out⟩
/-- What a call leaves that tells a set of states: a rising list in a row of its own. -/
def SetQ (w : World) (n : Nat) (A : Int → Prop) (e : Ending) (w' : World) : Prop :=
  ∃ (T : List Int) (vo : Option Addr) (vc : Nat), e = .returned (.slice vo T.length vc) ∧ w'.ownsRow w.heap.size 3 1 (.slice vo T.length vc) T.length (i64s T) ∧ T.Pairwise (· < ·) ∧ (∀ x ∈ T, 0 ≤ x ∧ x < (n : Int)) ∧ (∀ x, x ∈ T ↔ A x) ∧ Below w.heap.size w w'
theorem own_mono' {w : World} {B B' e size n : Nat} {v : Value} {xs : List Value} (h : w.ownsRow B e size v n xs) (hb : B' ≤ B) : w.ownsRow B' e size v n xs := by
  refine ⟨h.1, ?_⟩
  rcases h.2 with h' | ⟨q, cap, cur, hv, hB, rest⟩
  · exact .inl h'
  · exact .inr ⟨q, cap, cur, hv, Nat.le_trans hb hB, rest⟩
theorem ch_below {P ib N : Nat} {row : Option Nat} {w w' : World} (h : Ch P ib row w w') (hP : N ≤ P) (hI : N ≤ ib) (hr : ∀ k, row = some k → N ≤ k) (hN : N ≤ w.heap.size) : Below N w w' :=
  ⟨h.os, h.tape, h.output, h.size, fun k hk => h.block k (by omega) (by omega) (by omega) (fun e => by have := hr k e.symm; omega)⟩
theorem rdj_of {P ib : Nat} {w : World} {lo : Option Addr} {l : List Int} {N : Nat} (h : RdI w lo l) (hb : ∀ (k : Nat) (z : Int), l[k]? = some z → ∃ a : Addr, lo = some a ∧ a.block < N) (hP : N ≤ P) (hI : N ≤ ib) : RdJ P ib w lo l := fun k z hk => by
  obtain ⟨a, h1, h2, h3⟩ := h k z hk
  obtain ⟨a', h4, h5⟩ := hb k z hk
  rw [h1] at h4
  cases h4
  exact ⟨a, h1, h2, by omega, by omega, h3⟩
theorem rdj_own {P ib B m vc : Nat} {w : World} {vo : Option Addr} {l : List Int} (h : w.ownsRow B 3 1 (.slice vo m vc) m (i64s l)) (hP : P < B) (hI : ib < B) : RdJ P ib w vo l := fun k z hk => by
  obtain ⟨g, e, hB, hg, hc⟩ := own_at h hk
  exact ⟨_, e, hg, by show g ≠ P; omega, by show g ≠ ib; omega, by rw [Addr.add_lit, Nat.zero_add]; exact hc⟩
theorem fl_bd {L : List St} {n : Nat} {FL : List (List Int)} (hl : FL.length = L.length) (h : ∀ (k : Nat) (s : St) (g : List Int), L[k]? = some s → FL[k]? = some g → FOk n s g) : ∀ l ∈ FL, ∀ t ∈ l, 0 ≤ t ∧ t < (n : Int) := fun l hl' t ht => by
  obtain ⟨k, hk⟩ := List.mem_iff_getElem?.1 hl'
  have hkl := (List.getElem?_eq_some_iff.1 hk).1
  exact (h k L[k] l (List.getElem?_eq_getElem (by omega)) hk).1 t ht
theorem wl_bd {L : List St} {n : Nat} {WL : List (List Wy)} (hl : WL.length = L.length) (h : ∀ (k : Nat) (s : St) (g : List Wy), L[k]? = some s → WL[k]? = some g → WOk n s g) : ∀ l ∈ WL, ∀ x ∈ l, x.1 < 18446744073709551616 ∧ 0 ≤ x.2 ∧ x.2 < (n : Int) := fun l hl' t ht => by
  obtain ⟨k, hk⟩ := List.mem_iff_getElem?.1 hl'
  have hkl := (List.getElem?_eq_some_iff.1 hk).1
  exact (h k L[k] l (List.getElem?_eq_getElem (by omega)) hk).bd t ht
theorem rdi_blk {w : World} {lo : Option Addr} {l : List Int} (h : RdI w lo l) : ∀ (k : Nat) (z : Int), l[k]? = some z → ∃ a : Addr, lo = some a ∧ a.block < w.heap.size := fun k z hk => by
  obtain ⟨a, h1, h2, _⟩ := h k z hk
  exact ⟨a, h1, h2⟩
set_option maxHeartbeats 2000000 in
set_option maxRecDepth 100000 in
theorem closure_any (so : Option Addr) (sc n : Nat) (L : List St) (s f : Int) (lo : Option Addr) (ln lc : Nat) (l : List Int) (w : World) (hn : n = L.length) (hs : RdS w so L) (hg : gdB L s f = true) (he : eS L ≤ 1000000) (hf : fS L ≤ 1000000) (hl : RdI w lo l) (hln : ln = l.length) (hlm : ln ≤ most) :
    Calls Tryd.prog 29 #[.agg #[.slice so n sc, .int .i64 s, .int .i64 f], .slice lo ln lc] w fun e w' => SetQ w n (Clo L (fun y => y ∈ l ∧ 0 ≤ y ∧ y < (n : Int))) e w' := by
  have hgd := gdd_of hg
  have HGD := hid hgd
  have HN := hid hn
  have HS := hid hs
  have HL := hid hl
  have HLN := hid hln
  have HLM := hid hlm
  have h4 : n ≤ 4096 := by have := hgd.few; omega
  have HE := hid he
  have HF := hid hf
  clear hs hl hln hlm hgd he hf hn
  go_enter Tryd.func29, Tryd.ntmps29
  go_wp2_with fail
  refine (good_any so sc n L s f _ HN.out (HS.out.below below_box) (by unfold most; omega)).mono ?_
  rintro e w1 ⟨rfl, b1⟩
  have b1' : Below (w.heap.size + 1) (w.alloc (.cells #[.slice so n sc, .int .i64 s, .int .i64 f] 28)) w1 := by simpa using b1
  obtain ⟨c0, c1, c2⟩ := box3 b1'
  have HB1 := hid (box_trans b1')
  clear b1 b1'
  go_wp2_with fail
  refine (runner_any so sc n L s f w1 HN.out (HS.out.below HB1.out) h4 HE.out HF.out (by rw [HN.out]; exact HGD.out.all)).mono ?_
  rintro e w2 ⟨P, wt, ft, ib, ws, fs, WL, FL, I, z, S1, rfl, hM, hmk, z0, z1, hWO, hFO, gP, gI, b2⟩
  have HB2 := hid (HB1.out.trans (b2.mono HB1.out.size))
  have hwl : WL.length = L.length := by have := hM.wl; have := HN.out; omega
  have hfl : FL.length = L.length := by have := hM.fl; have := HN.out; omega
  have hsz1 := HB1.out.size
  have HM := hid hM
  have HMK := hid hmk
  have HFO := hid hFO
  have HFL := hid hfl
  have hPB := hM.hPB
  have hIB := hM.hIB
  clear hM hmk hWO hFO b2 hwl hfl
  go_wp2_with fail
  refine (begin_any l lo ln lc S1 HM.out (rdj_of (HL.out.below HB2.out) (rdi_blk HL.out) (by omega) (by omega)) HLN.out HLM.out HMK.out z0 (by omega) (fl_bd HFL.out HFO.out) h4).mono ?_
  rintro e w3 ⟨v3, rfl, S, I', vo, vc, rfl, o3, hM3, hmk3, hiff, ch3, fr3⟩
  have HO3 := hid o3
  have HMK3 := hid hmk3
  have HIF := hid hiff
  have HB3 := hid (HB2.out.trans (ch_below ch3 (by omega) (by omega) (fun k e => by cases e) HB2.out.size))
  have hle := hmk3.le
  have hr3 := own_row o3
  have hw2 := HB2.out.size
  have HR3 := hid hr3
  clear o3 hM3 hmk3 hiff ch3 fr3 hr3
  go_wp2_with fail
  refine (sort_own (P := P) (ib := ib) vo S.length vc S w3 HO3.out (by omega)).mono ?_
  rintro e w4 ⟨rfl, o4, ch4⟩
  have HO4 := hid o4
  have HB4 := hid (HB3.out.trans (ch_below ch4 (by omega) (by omega) (fun k e => by have := HR3.out k e; omega) HB3.out.size))
  clear o4 ch4
  go_wp2
  go_ret
  refine ⟨srtd S, vo, vc, by rw [srtd_len]; rfl, by rw [srtd_len]; exact own_mono' HO4.out (by omega), srtd_lt S HMK3.out.nd, fun x hx => HMK3.out.bd x ((srtd_mem S x).1 hx), fun x => ?_, HB4.out⟩
  rw [srtd_mem, HIF.out x]
  exact rch_fls HFL.out HFO.out _ x
end Go.Proofs.YteacehfihogmpaaDoor
/- The contracts of Step (package nfa) and of ints (the laws'). -/
namespace Go.Proofs.YteacehfihogmpaaDoor
open Go.RowKit

theorem onl_eq (c : Int) : onl c = if 0 ≤ c ∧ c < 64 then 2 ^ c.toNat else 0 := rfl
theorem onl_lt (c : Int) : onl c < 18446744073709551616 := by
  unfold onl
  split
  · exact Nat.lt_of_lt_of_le (Nat.pow_lt_pow_right (by decide) (show c.toNat < 64 by omega)) (by decide : 2 ^ 64 ≤ 18446744073709551616)
  · decide
set_option maxHeartbeats 2000000 in
set_option maxRecDepth 100000 in
theorem stepN_any (so : Option Addr) (sc n : Nat) (L : List St) (s f : Int) (lo : Option Addr) (ln lc : Nat) (l : List Int) (c : Int) (w : World) (hn : n = L.length) (hs : RdS w so L) (hg : gdB L s f = true) (he : eS L ≤ 1000000) (hf : fS L ≤ 1000000) (hl : RdI w lo l) (hln : ln = l.length) (hlm : ln ≤ most) :
    Calls Tryd.prog 31 #[.agg #[.slice so n sc, .int .i64 s, .int .i64 f], .slice lo ln lc, .int .i64 c] w fun e w' => SetQ w n (Nxt L (Clo L (fun y => y ∈ l ∧ 0 ≤ y ∧ y < (n : Int))) c) e w' := by
  have hgd := gdd_of hg
  have HGD := hid hgd
  have HN := hid hn
  have HS := hid hs
  have HL := hid hl
  have HLN := hid hln
  have HLM := hid hlm
  have h4 : n ≤ 4096 := by have := hgd.few; omega
  have HE := hid he
  have HF := hid hf
  clear hs hl hln hlm hgd he hf hn
  go_enter Tryd.func31, Tryd.ntmps31
  go_wp2_with fail
  refine (good_any so sc n L s f _ HN.out (HS.out.below below_box) (by unfold most; omega)).mono ?_
  rintro e w1 ⟨rfl, b1⟩
  have b1' : Below (w.heap.size + 1) (w.alloc (.cells #[.slice so n sc, .int .i64 s, .int .i64 f] 28)) w1 := by simpa using b1
  obtain ⟨c0, c1, c2⟩ := box3 b1'
  have HB1 := hid (box_trans b1')
  clear b1 b1'
  go_wp2_with fail
  refine (runner_any so sc n L s f w1 HN.out (HS.out.below HB1.out) h4 HE.out HF.out (by rw [HN.out]; exact HGD.out.all)).mono ?_
  rintro e w2 ⟨P, wt, ft, ib, ws, fs, WL, FL, I, z, S1, rfl, hM, hmk, z0, z1, hWO, hFO, gP, gI, b2⟩
  have HB2 := hid (HB1.out.trans (b2.mono HB1.out.size))
  have hwl : WL.length = L.length := by have := hM.wl; have := HN.out; omega
  have hfl : FL.length = L.length := by have := hM.fl; have := HN.out; omega
  have hsz1 := HB1.out.size
  have HM := hid hM
  have HMK := hid hmk
  have HFO := hid hFO
  have HWO := hid hWO
  have HFL := hid hfl
  have HWL := hid hwl
  have hPB := hM.hPB
  have hIB := hM.hIB
  clear hM hmk hWO hFO b2 hwl hfl
  go_wp2_with fail
  refine (begin_any l lo ln lc S1 HM.out (rdj_of (HL.out.below HB2.out) (rdi_blk HL.out) (by omega) (by omega)) HLN.out HLM.out HMK.out z0 (by omega) (fl_bd HFL.out HFO.out) h4).mono ?_
  rintro e w3 ⟨v3, rfl, S, I', vo, vc, rfl, o3, hM3, hmk3, hiff, ch3, fr3⟩
  have HO3 := hid o3
  have HMK3 := hid hmk3
  have HM3 := hid hM3
  have HIF := hid hiff
  have HB3 := hid (HB2.out.trans (ch_below ch3 (by omega) (by omega) (fun k e => by cases e) HB2.out.size))
  have hle := hmk3.le
  have hw2 := HB2.out.size
  clear o3 hM3 hmk3 hiff ch3 fr3
  go_wp2_with fail
  refine (only_any c _).mono ?_
  rintro e w3' ⟨rfl, hw⟩
  obtain rfl := hw.symm
  go_wp2_with fail
  refine (step_any S none vo 0 S.length vc (onl c) S HM3.out (World.ownsRow_nil _ _ _ _) (rdj_own HO3.out hPB hIB) (fun a _ => by simp [Value.ownBlock]) rfl (by unfold most; omega) HMK3.out.bd HMK3.out (by omega) (by omega) (wl_bd HWL.out HWO.out) (onl_lt c) (fl_bd HFL.out HFO.out) h4).mono ?_
  rintro e w4 ⟨v4, rfl, S4, I4, vo4, vc4, rfl, o4, hM4, hmk4, hiff4, ch4, fr4⟩
  have HO4 := hid o4
  have HMK4 := hid hmk4
  have HIF4 := hid hiff4
  have HB4 := hid (HB3.out.trans (ch_below ch4 (by omega) (by omega) (fun k e => by cases e) HB3.out.size))
  have hle4 := hmk4.le
  have HR4 := hid (own_row o4)
  clear o4 hM4 hmk4 hiff4 ch4 fr4
  go_wp2_with fail
  refine (sort_own (P := P) (ib := ib) vo4 S4.length vc4 S4 w4 HO4.out (by omega)).mono ?_
  rintro e w5 ⟨rfl, o5, ch5⟩
  have HO5 := hid o5
  have HB5 := hid (HB4.out.trans (ch_below ch5 (by omega) (by omega) (fun k e => by have := HR4.out k e; omega) HB4.out.size))
  clear o5 ch5
  go_wp2
  go_ret
  refine ⟨srtd S4, vo4, vc4, by rw [srtd_len]; rfl, by rw [srtd_len]; exact own_mono' HO5.out (by omega), srtd_lt S4 HMK4.out.nd, fun x hx => HMK4.out.bd x ((srtd_mem S4 x).1 hx), fun x => ?_, HB5.out⟩
  rw [srtd_mem, HIF4.out x]
  refine (rch_fls HFL.out HFO.out _ x).trans (Clo.congr (fun t => ?_) x)
  refine (stp_sta HWL.out HWO.out (onl_eq c) HGD.out.cls t).trans (StA.congr (fun y => ?_) c t)
  rw [HIF.out y]
  exact rch_fls HFL.out HFO.out _ y
theorem take_step {l m : List Int} {k : Nat} (hk : k < l.length) (hm : k < m.length) (h : l.take k = m.take k) (e : l[k] = m[k]) : l.take (k + 1) = m.take (k + 1) := by
  rw [List.take_succ_eq_append_getElem hk, List.take_succ_eq_append_getElem hm, h, e]
set_option maxHeartbeats 1000000 in
set_option maxRecDepth 100000 in
theorem ints_any (ao bo : Option Addr) (ac bc na nb : Nat) (l m : List Int) (w : World) (ha : RdI w ao l) (hb : RdI w bo m) (hna : na = l.length) (hnb : nb = m.length) (hl : na ≤ most) (hl2 : nb ≤ most) :
    Calls Tryd.prog 21 #[.slice ao na ac, .slice bo nb bc] w fun e w' => e = .returned (.bool (decide (l = m))) ∧ Below w.heap.size w w' := by
  unfold most at hl hl2
  have HA := hid ha
  have HB := hid hb
  have HNA := hid hna
  have HNB := hid hnb
  clear ha hb hna hnb
  by_cases hlm : na = nb
  · subst hlm
    go_enter Tryd.func21, Tryd.ntmps21
    go_wp2
    go_loopw [5] (fun i wr => ∃ k : Nat, k ≤ na ∧ i = .int .i64 k ∧ Hid (l.take k = m.take k) ∧ Hid (Below w.heap.size w wr)) (fun i _ => na - (intOf i).toNat)
    case atStart => exact ⟨0, by omega, rfl, rfl, Below.refl _ _⟩
    case round =>
      obtain ⟨k, hk, rfl, HE, HBr⟩ := hrel
      by_cases hlt : k < na
      · have hkl : k < l.length := by have := HNA.out; omega
        have hkm : k < m.length := by have := HNB.out; omega
        obtain ⟨a, rfl, _, a0⟩ := HA.out.below HBr.out k l[k] (List.getElem?_eq_getElem hkl)
        obtain ⟨b, rfl, _, b0⟩ := HB.out.below HBr.out k m[k] (List.getElem?_eq_getElem hkm)
        have HS := hid (fun e => take_step hkl hkm HE.out e)
        have HD := hid (show l[k] ≠ m[k] → decide (l = m) = false from fun hne => decide_eq_false (fun e => hne (by subst e; rfl)))
        obtain ⟨x, hx⟩ : ∃ x, l[k] = x := ⟨_, rfl⟩
        obtain ⟨y, hy⟩ : ∃ y, m[k] = y := ⟨_, rfl⟩
        rw [hx] at a0 HS HD
        rw [hy] at b0 HS HD
        have i3 : (k : Int) < (na : Int) := by omega
        clear hx hy hkl hkm
        by_cases q : x = y
        · have HZ := hid (HS.out q)
          subst q
          clear HS HD
          go_wp2_with fail
          go_region
          go_wp2
          go_roundw
          case rel => exact ⟨k + 1, by omega, by go_num, HZ, HBr.out.drew⟩
          case measure => simp [intOf]; omega
        · have HZ := hid (HD.out q)
          have t2 : (x != y) = true := bne_iff_ne.2 q
          clear HS HD
          go_wp2_with fail
          go_region
          go_wp2
          go_ret
          exact ⟨by rw [HZ.out]; rfl, HBr.out.drew⟩
      · have i3 : ¬ (k : Int) < (na : Int) := by omega
        have HZ := hid (show decide (l = m) = true from decide_eq_true (by have h := HE.out; rw [List.take_of_length_le (by have := HNA.out; omega), List.take_of_length_le (by have := HNB.out; omega)] at h; exact h))
        go_wp2
        go_ret
        exact ⟨by rw [HZ.out]; rfl, HBr.out⟩
  · have HZ := hid (show decide (l = m) = false from decide_eq_false (fun e => hlm (by rw [HNA.out, HNB.out, e])))
    have t2 : ((na : Int) != (nb : Int)) = true := bne_iff_ne.2 (by omega)
    go_enter Tryd.func21, Tryd.ntmps21
    go_wp2
    go_ret
    exact ⟨by rw [HZ.out]; rfl, Below.refl _ _⟩
end Go.Proofs.YteacehfihogmpaaDoor
/- The places at which what is taken ends. -/
namespace Go.Proofs.YteacehfihogmpaaDoor

/-- What was read from a place on. -/
def csb (c : List Int) (a k : Nat) : List Int := (c.drop a).take (k - a)
theorem csb_self (c : List Int) (a : Nat) : csb c a a = [] := by unfold csb; simp
theorem csb_next {c : List Int} {a k : Nat} (ha : a ≤ k) (hk : k < c.length) : csb c a (k + 1) = csb c a k ++ [c[k]] := by
  unfold csb
  rw [show k + 1 - a = (k - a) + 1 by omega, List.take_succ_eq_append_getElem (by rw [List.length_drop]; omega)]
  congr 2
  rw [List.getElem_drop]
  congr 1
  omega
theorem csb_all (c : List Int) : csb c 0 c.length = c := by unfold csb; simp
/-- The places from a to below k at which fin is among the states. -/
structure Eq2 (L : List St) (A : Int → Prop) (fin : Int) (c : List Int) (a k : Nat) (E : List Int) : Prop where
  ris : E.Pairwise (· < ·)
  iff : ∀ p : Int, p ∈ E ↔ ∃ j : Nat, p = (j : Int) ∧ a ≤ j ∧ j < k ∧ Rd L A (csb c a j) fin
section
variable {L : List St} {A : Int → Prop} {fin : Int} {c : List Int} {a k : Nat} {E : List Int}
theorem Eq2.start : Eq2 L A fin c a a [] := ⟨List.Pairwise.nil, fun p => by constructor; (· intro h; simp at h); (· rintro ⟨j, _, h1, h2, _⟩; omega)⟩
theorem Eq2.yes (h : Eq2 L A fin c a k E) (ha : a ≤ k) (hk : Rd L A (csb c a k) fin) : Eq2 L A fin c a (k + 1) (E ++ [(k : Int)]) := by
  refine ⟨?_, fun p => ?_⟩
  · rw [List.pairwise_append]
    refine ⟨h.ris, by simp, fun x hx y hy => ?_⟩
    obtain ⟨j, rfl, _, h2, _⟩ := (h.iff x).1 hx
    simp at hy
    omega
  · rw [List.mem_append, h.iff p]
    constructor
    · rintro (⟨j, h1, h2, h3, h4⟩ | h1)
      · exact ⟨j, h1, h2, by omega, h4⟩
      · simp at h1
        exact ⟨k, h1, ha, by omega, hk⟩
    · rintro ⟨j, h1, h2, h3, h4⟩
      by_cases e : j = k
      · right; simp [h1, e]
      · exact .inl ⟨j, h1, h2, by omega, h4⟩
theorem Eq2.no (h : Eq2 L A fin c a k E) (hk : ¬ Rd L A (csb c a k) fin) : Eq2 L A fin c a (k + 1) E := by
  refine ⟨h.ris, fun p => ?_⟩
  rw [h.iff p]
  constructor
  · rintro ⟨j, h1, h2, h3, h4⟩
    exact ⟨j, h1, h2, by omega, h4⟩
  · rintro ⟨j, h1, h2, h3, h4⟩
    by_cases e : j = k
    · subst e; exact absurd h4 hk
    · exact ⟨j, h1, h2, by omega, h4⟩
theorem rch_none {FL : List (List Int)} {A : Int → Prop} (h : ∀ x, ¬ A x) (x : Int) : ¬ Rch FL A x := fun hx => by
  induction hx with
  | base h1 => exact h _ h1
  | step _ _ _ ih => exact ih
theorem rd_none {L : List St} : ∀ (c : List Int) {A : Int → Prop}, (∀ x, ¬ A x) → ∀ x, ¬ Rd L A c x
  | [], _, h, x => h x
  | a :: c, A, h, x => rd_none c (A := Nxt L A a) (fun y => rch_none (fun _ ⟨u, h1, _⟩ => h u h1) y) x
theorem Rd_app (L : List St) (A : Int → Prop) (c d : List Int) : Rd L A (c ++ d) = Rd L (Rd L A c) d := by unfold Rd; rw [List.foldl_append]
theorem Eq2.rest (h : Eq2 L A fin c a k E) (ha : a ≤ k) (hk : ∀ x, ¬ Rd L A (csb c a k) x) (m : Nat) (hm : k ≤ m) : Eq2 L A fin c a m E := by
  refine ⟨h.ris, fun p => ?_⟩
  rw [h.iff p]
  constructor
  · rintro ⟨j, h1, h2, h3, h4⟩
    exact ⟨j, h1, h2, by omega, h4⟩
  · rintro ⟨j, h1, h2, h3, h4⟩
    by_cases e : j < k
    · exact ⟨j, h1, h2, e, h4⟩
    · exfalso
      have e2 : csb c a j = csb c a k ++ (c.drop k).take (j - k) := by
        unfold csb
        rw [show j - a = (k - a) + (j - k) by omega, List.take_add, List.drop_drop]
        congr 3
        omega
      rw [e2, Rd_app] at h4
      exact rd_none _ hk _ h4
theorem Eq2.len (h : Eq2 L A fin c a k E) : E.length ≤ k := by
  have h1 : E.Nodup := by
    rw [List.nodup_iff_pairwise_ne]
    exact h.ris.imp fun h => by omega
  refine nodup_le h1 fun x hx => ?_
  obtain ⟨j, rfl, _, h2, _⟩ := (h.iff x).1 hx
  omega
end
end Go.Proofs.YteacehfihogmpaaDoor
/- The contract of Ends (package nfa). -/
namespace Go.Proofs.YteacehfihogmpaaDoor
open Go.RowKit

/-- Two rows that lie apart. -/
def Dj (v u : Value) : Prop := ∀ k, v.ownBlock = some k → u.ownBlock ≠ some k
theorem Dj.nilR (v : Value) (n c : Nat) : Dj v (.slice none n c) := fun _ _ h => by cases h
theorem Dj.nil (v : Value) (n c : Nat) : Dj (.slice none n c) v := fun _ h => by cases h
theorem own_ch {B P ib : Nat} {w w' : World} {v : Value} {m : Nat} {xs : List Value} {row : Option Nat} (h : w.ownsRow B 3 1 v m xs) (hP : P < B) (hI : ib < B) (hc : Ch P ib row w w') (hr : ∀ k, v.ownBlock = some k → row ≠ some k) : w'.ownsRow B 3 1 v m xs :=
  own_same h fun k hk hlt => hc.block k hlt (by have := (h.lt k hk).1; omega) (by have := (h.lt k hk).1; omega) (fun e => hr k hk e.symm)
theorem dj_new {e p : Value} {g m c H : Nat} (hl : e.ownBlock = some g ∨ g = H) (hd : Dj e p) (hp : ∀ k, p.ownBlock = some k → k < H) : Dj (.slice (some ⟨g, 0, none⟩) m c) p := fun k hk e' => by
  have hk' : g = k := Option.some.inj hk
  subst hk'
  rcases hl with h | h
  · exact hd g h e'
  · have := hp g e'; omega
theorem dj_fr {e : Value} {w : World} {r r' : Option Nat} {m c : Nat} {vo : Option Addr} (hf : Fr w r r') (hr : r' = (Value.slice vo m c).ownBlock) (hd : ∀ k, e.ownBlock = some k → r ≠ some k) (he : ∀ k, e.ownBlock = some k → k < w.heap.size) : Dj e (.slice vo m c) := fun k hk e' => by
  rw [← hr] at e'
  rcases hf with h | h | ⟨q, h, hq⟩
  · rw [h] at e'; cases e'
  · rw [h] at e'; exact hd k hk e'
  · rw [h] at e'; cases e'; have := he k hk; omega
theorem Dj.symm {v u : Value} (h : Dj v u) : Dj u v := fun k hk e => h k e hk
theorem kept_of {v u : Value} (h : Dj v u) : u.ownBlock = none ∨ u.ownBlock ≠ v.ownBlock := by
  cases hu : u.ownBlock with
  | none => exact .inl rfl
  | some k => right; intro e; exact h k e.symm hu
/-- What Ends tells. -/
def EndQ (w : World) (L : List St) (A : Int → Prop) (fin : Int) (c : List Int) (a : Nat) (e : Ending) (w' : World) : Prop :=
  ∃ (E : List Int) (vo : Option Addr) (vc : Nat), e = .returned (.slice vo E.length vc) ∧ w'.ownsRow w.heap.size 3 1 (.slice vo E.length vc) E.length (i64s E) ∧ Eq2 L A fin c a (c.length + 1) E ∧ Below w.heap.size w w'
set_option maxHeartbeats 4000000 in
set_option maxRecDepth 100000 in
theorem ends_any (so : Option Addr) (sc n : Nat) (L : List St) (s f : Nat) (co : Option Addr) (cl cc : Nat) (c : List Int) (a : Nat) (w : World) (hn : n = L.length) (hs : RdS w so L) (hg : gdB L s f = true) (he : eS L ≤ 1000000) (hf : fS L ≤ 1000000) (hc : RdI w co c) (hcl : cl = c.length) (hcm : cl ≤ 1000000) (ha : a ≤ cl) :
    Calls Tryd.prog 22 #[.agg #[.slice so n sc, .int .i64 s, .int .i64 f], .slice co cl cc, .int .i64 a] w fun e w' => EndQ w L (Clo L (· = (s : Int))) f c a e w' := by
  obtain ⟨i0, hi3, hz0, hz1, hz2⟩ := info_parts Tryd.info3
  have hgd := gdd_of hg
  have hst := hgd.st
  have hfi := hgd.fi
  have hsn : s < n := by omega
  have hfn : f < n := by omega
  have HGD := hid hgd
  have HN := hid hn
  have HS := hid hs
  have HCC := hid hc
  have HCL := hid hcl
  have h4 : n ≤ 4096 := by have := hgd.few; omega
  have HE := hid he
  have HF := hid hf
  have i1 : ¬ (a : Int) < 0 := by omega
  have i2 : ¬ (cl : Int) < (a : Int) := by omega
  clear hs hc hcl hgd he hf hn hst hfi
  go_enter Tryd.func22, Tryd.ntmps22
  go_wp2_with fail
  refine (good_any so sc n L s f _ HN.out (HS.out.below below_box) (by unfold most; omega)).mono ?_
  rintro e w1 ⟨rfl, b1⟩
  have b1' : Below (w.heap.size + 1) (w.alloc (.cells #[.slice so n sc, .int .i64 s, .int .i64 f] 28)) w1 := by simpa using b1
  obtain ⟨c0, c1, c2⟩ := box3 b1'
  have HB1 := hid b1'
  clear b1 b1'
  go_wp2_with fail
  refine (runner_any so sc n L s f w1 HN.out (HS.out.below (box_trans HB1.out)) h4 HE.out HF.out (by rw [HN.out]; exact HGD.out.all)).mono ?_
  rintro e w2 ⟨P, wt, ft, ib, ws, fs, WL, FL, I, z, S1, rfl, hM, hmk, z0, z1, hWO, hFO, gP, gI, b2⟩
  have hsz1 : w.heap.size + 1 ≤ w1.heap.size := by have := HB1.out.size; simpa using this
  have HB2 := hid (HB1.out.trans (b2.mono hsz1))
  have hwl : WL.length = L.length := by have := hM.wl; have := HN.out; omega
  have hfl : FL.length = L.length := by have := hM.fl; have := HN.out; omega
  obtain ⟨c0, c1, c2⟩ := box3 HB2.out
  have HM := hid hM
  have HMK := hid hmk
  have HFO := hid hFO
  have HWO := hid hWO
  have HFL := hid hfl
  have HWL := hid hwl
  have hPB := hM.hPB
  have hIB := hM.hIB
  obtain ⟨B, hBe⟩ : ∃ B, B = w2.heap.size := ⟨_, rfl⟩
  rw [← hBe] at HM hPB hIB
  have HBE := hid hBe
  have hsz2 : w.heap.size + 1 ≤ w2.heap.size := by have := HB2.out.size; simpa using this
  clear hM hmk hWO hFO b2 hwl hfl hBe
  go_wp2_with fail
  have HRS := hid (show RdJ P ib (w2.alloc (.cells #[.int .i64 (s : Int)] 3)) (some ⟨w2.heap.size, 0, none⟩) [(s : Int)] from fun k y hk => by
    have hk0 : k = 0 := by have := (List.getElem?_eq_some_iff.1 hk).1; simp at this; omega
    subst hk0
    have hy : (s : Int) = y := by simpa using hk
    subst hy
    have hbe := HBE.out
    exact ⟨_, rfl, by show w2.heap.size < _; simp, by show w2.heap.size ≠ P; omega, by show w2.heap.size ≠ ib; omega, news_one w2 _ 3 0 _ rfl⟩)
  refine (begin_any [(s : Int)] (some ⟨w2.heap.size, 0, none⟩) 1 1 S1 (HM.out.alloc _) HRS.out rfl (by unfold most; omega) HMK.out z0 (by omega) (fl_bd HFL.out HFO.out) h4).mono ?_
  rintro e w3 ⟨v3, rfl, S3, I3, vo3, vc3, rfl, o3, hM3, hmk3, hiff3, ch3, fr3⟩
  have HB3 := hid (show Below (w.heap.size + 1) (w.alloc (.cells #[.slice so n sc, .int .i64 s, .int .i64 f] 28)) w3 from (HB2.out.alloc hsz2 (.cells #[.int .i64 (s : Int)] 3)).trans (ch_below ch3 (by omega) (by omega) (fun k e => by cases e) (by simp; omega)))
  have HO3 := hid o3
  have HM3 := hid hM3
  have HMK3 := hid hmk3
  have HIF3 := hid (show ∀ x, x ∈ S3 ↔ Rd L (Clo L (· = (s : Int))) (csb c a a) x from fun x => by
    rw [csb_self]
    show x ∈ S3 ↔ Clo L (· = (s : Int)) x
    rw [hiff3 x, rch_fls HFL.out HFO.out]
    exact Clo.congr (fun y => by simp; omega) x)
  have hle3 := hmk3.le
  clear o3 hM3 hmk3 hiff3 ch3 fr3 HRS HM HMK HB1 HB2
  go_wp2
  go_loopw [8, 9, 10, 11] (fun xe xs xn xk wr => ∃ (k em pm m : Nat) (eo po no : Option Addr) (ec pc nc : Nat) (E Sp S I : List Int) (z : Int), xe = .slice eo em ec ∧ xs = .slice po pm pc ∧ xn = .slice no m nc ∧ xk = .int .i64 k ∧ a ≤ k ∧ k ≤ cl ∧ m ≤ n ∧ 0 ≤ z ∧ z ≤ 9000 + (k : Int) ∧ Hid (E.length = em) ∧ Hid (S.length = m) ∧ Hid (wr.ownsRow B 3 1 (.slice eo em ec) em (i64s E)) ∧ Hid (wr.ownsRow B 3 1 (.slice po pm pc) pm (i64s Sp)) ∧ Hid (wr.ownsRow B 3 1 (.slice no m nc) m (i64s S)) ∧ Hid (MAt B wr P wt ft ib n ws fs WL FL I z) ∧ Hid (Mk I z n S) ∧ Hid (∀ x, x ∈ S ↔ Rd L (Clo L (· = (s : Int))) (csb c a k) x) ∧ Hid (Eq2 L (Clo L (· = (s : Int))) f c a k E) ∧ Hid (Dj (.slice eo em ec) (.slice po pm pc)) ∧ Hid (Dj (.slice eo em ec) (.slice no m nc)) ∧ Hid (Dj (.slice no m nc) (.slice po pm pc)) ∧ Hid (Below (w.heap.size + 1) (w.alloc (.cells #[.slice so n sc, .int .i64 s, .int .i64 f] 28)) wr)) (fun _ _ _ xk _ => cl - (intOf xk).toNat)
  case atStart => exact ⟨a, 0, 0, S3.length, none, none, vo3, 0, 0, vc3, [], [], S3, I3, z + 1, rfl, rfl, rfl, rfl, Nat.le_refl _, ha, hle3, by omega, by omega, rfl, rfl, World.ownsRow_nil _ _ _ _, World.ownsRow_nil _ _ _ _, HO3, HM3, HMK3, HIF3, Eq2.start, Dj.nil _ _ _, Dj.nil _ _ _, Dj.nilR _ _ _, HB3⟩
  case round =>
    clear HO3 HM3 HMK3 HIF3 HB3 hle3 c0 c1 c2 z0 z1
    obtain ⟨k, em, pm, m, eo, po, no, ec, pc, nc, E, Sp, S, I, z, rfl, rfl, rfl, rfl, hak, hkc, hmn, z0, z1, HEL, HSL, HOE, HOP, HON, HM, HMK, HIF, HEQ, HDep, HDen, HDnp, HB⟩ := hrel
    obtain ⟨c0, c1, c2⟩ := box3 HB.out
    by_cases hm0 : 0 < m
    · have hm0' : (0 : Int) < (m : Int) := by omega
      obtain ⟨zf, hzf⟩ : ∃ zf, I[f]? = some zf := ⟨_, List.getElem?_eq_getElem (by have := HMK.out.len; omega)⟩
      have HZF := hid hzf
      have hff : zf = z ↔ Rd L (Clo L (· = (s : Int))) (csb c a k) (f : Int) := by
        rw [← HIF.out, ← HMK.out.mrk f hfn, hzf]; simp
      have HFF := hid hff
      clear hzf hff
      go_wp2_with fail
      refine (lastIn_any f zf HM.out hfn HZF.out).mono ?_
      rintro e w4 ⟨rfl, k4, hw4⟩
      have HM4 := hid (show MAt B w4 P wt ft ib n ws fs WL FL I z by rw [hw4]; exact HM.out.drew k4)
      have HOE4 := hid (show w4.ownsRow B 3 1 (.slice eo em ec) em (i64s E) by rw [hw4]; exact own_keepCh HOE.out hPB hIB (Ch.drew P ib none wr k4))
      have HOP4 := hid (show w4.ownsRow B 3 1 (.slice po pm pc) pm (i64s Sp) by rw [hw4]; exact own_keepCh HOP.out hPB hIB (Ch.drew P ib none wr k4))
      have HON4 := hid (show w4.ownsRow B 3 1 (.slice no m nc) m (i64s S) by rw [hw4]; exact own_keepCh HON.out hPB hIB (Ch.drew P ib none wr k4))
      have HB4 := hid (show Below (w.heap.size + 1) (w.alloc (.cells #[.slice so n sc, .int .i64 s, .int .i64 f] 28)) w4 by rw [hw4]; exact below_drN HB.out k4)
      have hB4 := HM4.out.hB
      have hbw := HBE.out
      clear hw4 HM HOE HOP HON HB
      by_cases hz : zf = z
      · have bz : (zf == z) = true := by rw [hz]; simp
        have HEQ5 := hid (HEQ.out.yes hak (HFF.out.1 hz))
        have hem : em ≤ k := by have h := HEQ.out.len; rw [HEL.out] at h; exact h
        have HEL5 := hid (show (E ++ [(k : Int)]).length = em + 1 by rw [List.length_append, HEL.out]; rfl)
        clear hz
        by_cases hkl : k = cl
        · have bk : ((k : Int) == (cl : Int)) = true := by rw [hkl]; simp
          have HEQF := hid (show Eq2 L (Clo L (· = (s : Int))) f c a (c.length + 1) (E ++ [(k : Int)]) by rw [← HCL.out, ← hkl]; exact HEQ5.out)
          clear hkl
          go_wp2_with (at_builtin; refine wpList_append_lies _ rfl _ _ 22 rfl B 3 i0 (.int .i64 0) 1 8 Tryd.underlying22 hi3 hz0 hz1 hz2 rfl (by decide) (.slice eo em ec) em (i64s E) rfl (HOE4.out.alloc _) ⟨w4.heap.size, 0, none⟩ 1 1 [.int .i64 (k : Int)] rfl rfl (news_one w4 _ 3) (i64s_one [(k : Int)]) (by decide) (by unfold maxLen; omega) (by omega) (by simp; omega) (w4.heap.size + 1) (by simp) ?_; intro g5 ec5 w5 o5 gr5 hl5 hlt5; have HOE5 := hid (show w5.ownsRow B 3 1 (.slice (some ⟨g5, 0, none⟩) (em + 1) ec5) (em + 1) (i64s (E ++ [(k : Int)])) by (rw [i64s_snoc]; exact o5)); have HM5 := hid ((HM4.out.alloc (.cells #[.int .i64 (k : Int)] 3)).grown gr5 (own_row HOE4.out)); have HOP5 := hid ((HOP4.out.alloc (.cells #[.int .i64 (k : Int)] 3)).kept gr5 (kept_of HDep.out)); have HON5 := hid ((HON4.out.alloc (.cells #[.int .i64 (k : Int)] 3)).kept gr5 (kept_of HDen.out)); have HB5 := hid ((HB4.out.alloc (by have := HB4.out.size; simp at this; omega) (.cells #[.int .i64 (k : Int)] 3)).grown gr5 (by simp; omega) (fun k' hk' => by have := (HOE4.out.lt k' hk').1; omega)); have HDep5 := hid (dj_new (m := em + 1) (c := ec5) hl5 HDep.out (fun k' hk' => by have := (HOP4.out.lt k' hk').2; omega)); have HDen5 := hid (dj_new (m := em + 1) (c := ec5) hl5 HDen.out (fun k' hk' => by have := (HON4.out.lt k' hk').2; omega)); clear o5 gr5 hl5 hlt5)
          go_ret
          have hq := HEL5.out
          refine ⟨(E ++ [(k : Int)]), some ⟨g5, 0, none⟩, ec5, by rw [hq]; rfl, by rw [hq]; exact own_mono' HOE5.out (by omega), HEQF.out, box_trans HB5.out⟩
        · have bk : ((k : Int) == (cl : Int)) = false := beq_eq_false_iff_ne.2 (by omega)
          have hkl' : k < cl := by omega
          clear hkl
          go_wp2_with (at_builtin; refine wpList_append_lies _ rfl _ _ 22 rfl B 3 i0 (.int .i64 0) 1 8 Tryd.underlying22 hi3 hz0 hz1 hz2 rfl (by decide) (.slice eo em ec) em (i64s E) rfl (HOE4.out.alloc _) ⟨w4.heap.size, 0, none⟩ 1 1 [.int .i64 (k : Int)] rfl rfl (news_one w4 _ 3) (i64s_one [(k : Int)]) (by decide) (by unfold maxLen; omega) (by omega) (by simp; omega) (w4.heap.size + 1) (by simp) ?_; intro g5 ec5 w5 o5 gr5 hl5 hlt5; have HOE5 := hid (show w5.ownsRow B 3 1 (.slice (some ⟨g5, 0, none⟩) (em + 1) ec5) (em + 1) (i64s (E ++ [(k : Int)])) by (rw [i64s_snoc]; exact o5)); have HM5 := hid ((HM4.out.alloc (.cells #[.int .i64 (k : Int)] 3)).grown gr5 (own_row HOE4.out)); have HOP5 := hid ((HOP4.out.alloc (.cells #[.int .i64 (k : Int)] 3)).kept gr5 (kept_of HDep.out)); have HON5 := hid ((HON4.out.alloc (.cells #[.int .i64 (k : Int)] 3)).kept gr5 (kept_of HDen.out)); have HB5 := hid ((HB4.out.alloc (by have := HB4.out.size; simp at this; omega) (.cells #[.int .i64 (k : Int)] 3)).grown gr5 (by simp; omega) (fun k' hk' => by have := (HOE4.out.lt k' hk').1; omega)); have HDep5 := hid (dj_new (m := em + 1) (c := ec5) hl5 HDep.out (fun k' hk' => by have := (HOP4.out.lt k' hk').2; omega)); have HDen5 := hid (dj_new (m := em + 1) (c := ec5) hl5 HDen.out (fun k' hk' => by have := (HON4.out.lt k' hk').2; omega)); clear o5 gr5 hl5 hlt5)
          have hkc' : k < c.length := by have := HCL.out; omega
          obtain ⟨q, eq, hq, d0⟩ := HCC.out.below (box_trans HB5.out) k c[k] (List.getElem?_eq_getElem hkc')
          subst eq
          have HCS := hid (csb_next (c := c) (a := a) hak hkc')
          obtain ⟨ck, hck⟩ : ∃ ck, ck = c[k] := ⟨_, rfl⟩
          rw [← hck] at d0 HCS
          have hqw : q.block < w.heap.size := by obtain ⟨q', e', h', _⟩ := HCC.out k c[k] (List.getElem?_eq_getElem hkc'); cases e'; exact h'
          have k3 : (k : Int) < (cl : Int) := by omega
          have k0 : (0 : Int) ≤ (k : Int) := by omega
          have HOZ := hid (show w5.ownsRow B 3 1 (.slice po 0 pc) 0 [] by
            refine ⟨rfl, ?_⟩
            rcases HOP5.out.2 with ⟨h1, _⟩ | ⟨g, cap, cur, h1, h2, h3, h4', h5, h6, _⟩
            · cases h1; exact .inl ⟨rfl, rfl⟩
            · cases h1; exact .inr ⟨g, pc, cur, rfl, h2, h3, Nat.zero_le _, h5, h6, rfl⟩)
          have hdrop : w5.heap.size = w5.drew.heap.size := rfl
          have HMd := hid (HM5.out.drew 1)
          clear hck hkc' hq hdrop
          go_wp2_with fail
          refine wp_region_mix [(0, true), (1, true), (2, true), (3, true), (4, true), (5, true), (6, true), (7, true), (10, true), (8, false), (9, false), (11, true), (12, true)] (fun w' => w'.cell? (q.add k) = some (.int .i64 ck)) (fun _ => false) (by kernel_rfl) (by kernel_rfl) (fun j hj => by cases hj) rfl (by kernel_rfl) d0 ?_
          iterate 2 (refine mix_free ?_ rfl (by kernel_rfl) (fun w' hS => ?_) ?_; (rotate_left; (go_simp; with_reducible rfl); rotate_left))
          refine mix_free (.slice po 0 pc) rfl (by kernel_rfl) (fun w' hS => ?_) ?_
          · rcases HOP5.out.2 with ⟨h1, _⟩ | ⟨g, cap, cur, h1, h2, h3, h4', h5, h6, _⟩
            · cases h1; go_simp
            · cases h1; go_simp
          iterate 6 (refine mix_free ?_ rfl (by kernel_rfl) (fun w' hS => ?_) ?_; (rotate_left; (go_simp; with_reducible rfl); rotate_left))
          refine mix_go rfl (by kernel_rfl) fun KK hKK => ?_
          go_simp
          refine (only_any ck _).mono ?_
          rintro e w6 ⟨rfl, hw6⟩
          obtain rfl := hw6.symm
          refine hKK _ _ (fun _ => d0) ?_
          clear hKK KK
          refine mix_go rfl (by kernel_rfl) fun KK hKK => ?_
          go_simp
          refine (step_any S po no pc m nc (onl ck) S HMd.out (own_keepCh HOZ.out hPB hIB (Ch.drew P ib none _ 1)) (rdj_own (own_keepCh HON5.out hPB hIB (Ch.drew P ib none _ 1)) hPB hIB) (fun q' e' h' => by
            have h1 := (HDnp.out q'.block (by subst e'; rfl))
            exact h1 (by rw [show (Value.slice po pm pc).ownBlock = (Value.slice po 0 pc).ownBlock by cases po <;> rfl]; exact h'.symm)) HSL.out.symm (by unfold most; omega) HMK.out.bd HMK.out z0 (by omega) (wl_bd HWL.out HWO.out) (onl_lt ck) (fl_bd HFL.out HFO.out) h4).mono ?_
          rintro e w7 ⟨v7, rfl, S7, I7, vo7, vc7, rfl, o7, hM7, hmk7, hiff7, ch7, fr7⟩
          have HIF8 := hid (show ∀ x, x ∈ S7 ↔ Rd L (Clo L (· = (s : Int))) (csb c a (k + 1)) x from fun x => by
            rw [HCS.out, Rd_snoc, hiff7 x, rch_fls HFL.out HFO.out]
            exact Clo.congr (fun t => (stp_sta HWL.out HWO.out (onl_eq ck) HGD.out.cls t).trans (StA.congr HIF.out ck t)) x)
          have HO7 := hid o7
          have HM7 := hid hM7
          have HMK7 := hid hmk7
          have hpo : (Value.slice po pm pc).ownBlock = (Value.slice po 0 pc).ownBlock := by cases po <;> rfl
          have HOE7 := hid (own_ch (own_keepCh HOE5.out hPB hIB (Ch.drew P ib none _ 1)) hPB hIB ch7 (fun k' hk' e' => HDep5.out k' hk' (by rw [hpo]; exact e')))
          have HON7 := hid (own_ch (own_keepCh HON5.out hPB hIB (Ch.drew P ib none _ 1)) hPB hIB ch7 (fun k' hk' e' => HDnp.out k' hk' (by rw [hpo]; exact e')))
          have HB7 := hid ((below_drN HB5.out 1).trans (ch_below ch7 (by omega) (by omega) (fun k' hk' => by have := (HOZ.out.lt k' hk').1; omega) (by have := HB5.out.size; simp at this; show _ ≤ w5.heap.size; omega)))
          have HDen7 := hid (dj_fr (e := (.slice (some ⟨g5, 0, none⟩) (em + 1) ec5)) (m := S7.length) (c := vc7) (vo := vo7) fr7 rfl (fun k' hk' e' => HDep5.out k' hk' (by rw [hpo]; exact e')) (fun k' hk' => (HOE5.out.lt k' hk').2))
          have HDnn7 := hid (dj_fr (e := .slice no m nc) (m := S7.length) (c := vc7) (vo := vo7) fr7 rfl (fun k' hk' e' => HDnp.out k' hk' (by rw [hpo]; exact e')) (fun k' hk' => (HON5.out.lt k' hk').2)).symm
          have hle7 := hmk7.le
          have d7 : w7.cell? (q.add k) = some (.int .i64 ck) := by
            have h1 := HB7.out.cell (p := q.add k) (by rw [add_blk]; omega)
            have h2 := HB5.out.cell (p := q.add k) (by rw [add_blk]; omega)
            rw [h1, ← h2]; exact d0
          refine hKK _ _ (fun _ => d7) ?_
          clear hKK KK o7 hM7 hmk7 hiff7 ch7 fr7
          iterate 2 (refine mix_free ?_ rfl (by kernel_rfl) (fun w' hS => ?_) ?_; (rotate_left; (go_simp; with_reducible rfl); rotate_left))
          refine mix_end (NoPanic.normal ?_)
          go_wp2
          go_roundw
          case rel => exact ⟨k + 1, em + 1, m, S7.length, some ⟨g5, 0, none⟩, no, vo7, ec5, nc, vc7, (E ++ [(k : Int)]), S, S7, I7, z + 1, rfl, rfl, rfl, by go_num, by omega, by omega, hle7, by omega, by omega, HEL5, rfl, HOE7, HON7, HO7, HM7, HMK7, HIF8, HEQ5, HDen5, HDen7, HDnn7, HB7⟩
          case measure => simp [intOf]; omega
      · have bz : (zf == z) = false := beq_eq_false_iff_ne.2 hz
        have HEQ5 := hid (HEQ.out.no (fun h => hz (HFF.out.2 h)))
        have HEL5 := HEL
        have HOE5 := HOE4
        have HM5 := HM4
        have HOP5 := HOP4
        have HON5 := HON4
        have HB5 := HB4
        have HDep5 := HDep
        have HDen5 := HDen
        clear hz
        by_cases hkl : k = cl
        · have bk : ((k : Int) == (cl : Int)) = true := by rw [hkl]; simp
          have HEQF := hid (show Eq2 L (Clo L (· = (s : Int))) f c a (c.length + 1) E by rw [← HCL.out, ← hkl]; exact HEQ5.out)
          clear hkl
          go_wp2
          go_ret
          have hq := HEL5.out
          refine ⟨E, eo, ec, by rw [hq]; rfl, by rw [hq]; exact own_mono' HOE5.out (by omega), HEQF.out, box_trans HB5.out⟩
        · have bk : ((k : Int) == (cl : Int)) = false := beq_eq_false_iff_ne.2 (by omega)
          have hkl' : k < cl := by omega
          clear hkl
          go_wp2
          have hkc' : k < c.length := by have := HCL.out; omega
          obtain ⟨q, eq, hq, d0⟩ := HCC.out.below (box_trans HB5.out) k c[k] (List.getElem?_eq_getElem hkc')
          subst eq
          have HCS := hid (csb_next (c := c) (a := a) hak hkc')
          obtain ⟨ck, hck⟩ : ∃ ck, ck = c[k] := ⟨_, rfl⟩
          rw [← hck] at d0 HCS
          have hqw : q.block < w.heap.size := by obtain ⟨q', e', h', _⟩ := HCC.out k c[k] (List.getElem?_eq_getElem hkc'); cases e'; exact h'
          have k3 : (k : Int) < (cl : Int) := by omega
          have k0 : (0 : Int) ≤ (k : Int) := by omega
          have HOZ := hid (show w4.ownsRow B 3 1 (.slice po 0 pc) 0 [] by
            refine ⟨rfl, ?_⟩
            rcases HOP5.out.2 with ⟨h1, _⟩ | ⟨g, cap, cur, h1, h2, h3, h4', h5, h6, _⟩
            · cases h1; exact .inl ⟨rfl, rfl⟩
            · cases h1; exact .inr ⟨g, pc, cur, rfl, h2, h3, Nat.zero_le _, h5, h6, rfl⟩)
          have hdrop : w4.heap.size = w4.drew.heap.size := rfl
          have HMd := hid (HM5.out.drew 1)
          clear hck hkc' hq hdrop
          go_wp2_with fail
          refine wp_region_mix [(0, true), (1, true), (2, true), (3, true), (4, true), (5, true), (6, true), (7, true), (10, true), (8, false), (9, false), (11, true), (12, true)] (fun w' => w'.cell? (q.add k) = some (.int .i64 ck)) (fun _ => false) (by kernel_rfl) (by kernel_rfl) (fun j hj => by cases hj) rfl (by kernel_rfl) d0 ?_
          iterate 2 (refine mix_free ?_ rfl (by kernel_rfl) (fun w' hS => ?_) ?_; (rotate_left; (go_simp; with_reducible rfl); rotate_left))
          refine mix_free (.slice po 0 pc) rfl (by kernel_rfl) (fun w' hS => ?_) ?_
          · rcases HOP5.out.2 with ⟨h1, _⟩ | ⟨g, cap, cur, h1, h2, h3, h4', h5, h6, _⟩
            · cases h1; go_simp
            · cases h1; go_simp
          iterate 6 (refine mix_free ?_ rfl (by kernel_rfl) (fun w' hS => ?_) ?_; (rotate_left; (go_simp; with_reducible rfl); rotate_left))
          refine mix_go rfl (by kernel_rfl) fun KK hKK => ?_
          go_simp
          refine (only_any ck _).mono ?_
          rintro e w6 ⟨rfl, hw6⟩
          obtain rfl := hw6.symm
          refine hKK _ _ (fun _ => d0) ?_
          clear hKK KK
          refine mix_go rfl (by kernel_rfl) fun KK hKK => ?_
          go_simp
          refine (step_any S po no pc m nc (onl ck) S HMd.out (own_keepCh HOZ.out hPB hIB (Ch.drew P ib none _ 1)) (rdj_own (own_keepCh HON5.out hPB hIB (Ch.drew P ib none _ 1)) hPB hIB) (fun q' e' h' => by
            have h1 := (HDnp.out q'.block (by subst e'; rfl))
            exact h1 (by rw [show (Value.slice po pm pc).ownBlock = (Value.slice po 0 pc).ownBlock by cases po <;> rfl]; exact h'.symm)) HSL.out.symm (by unfold most; omega) HMK.out.bd HMK.out z0 (by omega) (wl_bd HWL.out HWO.out) (onl_lt ck) (fl_bd HFL.out HFO.out) h4).mono ?_
          rintro e w7 ⟨v7, rfl, S7, I7, vo7, vc7, rfl, o7, hM7, hmk7, hiff7, ch7, fr7⟩
          have HIF8 := hid (show ∀ x, x ∈ S7 ↔ Rd L (Clo L (· = (s : Int))) (csb c a (k + 1)) x from fun x => by
            rw [HCS.out, Rd_snoc, hiff7 x, rch_fls HFL.out HFO.out]
            exact Clo.congr (fun t => (stp_sta HWL.out HWO.out (onl_eq ck) HGD.out.cls t).trans (StA.congr HIF.out ck t)) x)
          have HO7 := hid o7
          have HM7 := hid hM7
          have HMK7 := hid hmk7
          have hpo : (Value.slice po pm pc).ownBlock = (Value.slice po 0 pc).ownBlock := by cases po <;> rfl
          have HOE7 := hid (own_ch (own_keepCh HOE5.out hPB hIB (Ch.drew P ib none _ 1)) hPB hIB ch7 (fun k' hk' e' => HDep5.out k' hk' (by rw [hpo]; exact e')))
          have HON7 := hid (own_ch (own_keepCh HON5.out hPB hIB (Ch.drew P ib none _ 1)) hPB hIB ch7 (fun k' hk' e' => HDnp.out k' hk' (by rw [hpo]; exact e')))
          have HB7 := hid ((below_drN HB5.out 1).trans (ch_below ch7 (by omega) (by omega) (fun k' hk' => by have := (HOZ.out.lt k' hk').1; omega) (by have := HB5.out.size; simp at this; show _ ≤ w4.heap.size; omega)))
          have HDen7 := hid (dj_fr (e := (.slice eo em ec)) (m := S7.length) (c := vc7) (vo := vo7) fr7 rfl (fun k' hk' e' => HDep5.out k' hk' (by rw [hpo]; exact e')) (fun k' hk' => (HOE5.out.lt k' hk').2))
          have HDnn7 := hid (dj_fr (e := .slice no m nc) (m := S7.length) (c := vc7) (vo := vo7) fr7 rfl (fun k' hk' e' => HDnp.out k' hk' (by rw [hpo]; exact e')) (fun k' hk' => (HON5.out.lt k' hk').2)).symm
          have hle7 := hmk7.le
          have d7 : w7.cell? (q.add k) = some (.int .i64 ck) := by
            have h1 := HB7.out.cell (p := q.add k) (by rw [add_blk]; omega)
            have h2 := HB5.out.cell (p := q.add k) (by rw [add_blk]; omega)
            rw [h1, ← h2]; exact d0
          refine hKK _ _ (fun _ => d7) ?_
          clear hKK KK o7 hM7 hmk7 hiff7 ch7 fr7
          iterate 2 (refine mix_free ?_ rfl (by kernel_rfl) (fun w' hS => ?_) ?_; (rotate_left; (go_simp; with_reducible rfl); rotate_left))
          refine mix_end (NoPanic.normal ?_)
          go_wp2
          go_roundw
          case rel => exact ⟨k + 1, em, m, S7.length, eo, no, vo7, ec, nc, vc7, E, S, S7, I7, z + 1, rfl, rfl, rfl, by go_num, by omega, by omega, hle7, by omega, by omega, HEL5, rfl, HOE7, HON7, HO7, HM7, HMK7, HIF8, HEQ5, HDen5, HDen7, HDnn7, HB7⟩
          case measure => simp [intOf]; omega
    · have hm00 : ¬ (0 : Int) < (m : Int) := by omega
      have HEQF := hid (show Eq2 L (Clo L (· = (s : Int))) f c a (c.length + 1) E from HEQ.out.rest hak (fun x hx => by
        have h1 := (HIF.out x).2 hx
        have h2 : S = [] := List.eq_nil_of_length_eq_zero (by have := HSL.out; omega)
        rw [h2] at h1; simp at h1) _ (by have := HCL.out; omega))
      go_wp2
      go_ret
      have hq := HEL.out
      exact ⟨E, eo, ec, by rw [hq]; rfl, by rw [hq]; exact own_mono' HOE.out (by have := HBE.out; omega), HEQF.out, box_trans HB.out⟩
end Go.Proofs.YteacehfihogmpaaDoor
/- The contracts of Longest and Takes (package nfa). -/
namespace Go.Proofs.YteacehfihogmpaaDoor
open Go.RowKit

theorem last_at {E : List Int} (h : 0 < E.length) : E[E.length - 1]? = some (E.getLastD 0) := by
  rw [List.getLastD_eq_getLast?, ← List.getLast?_eq_getElem?]
  cases hE : E.getLast? with
  | none => rw [List.getLast?_eq_none_iff] at hE; subst hE; simp at h
  | some x => rfl
/-- What Longest tells. -/
def LonQ (w : World) (L : List St) (A : Int → Prop) (fin : Int) (c : List Int) (a : Nat) (e : Ending) (w' : World) : Prop :=
  ∃ E : List Int, e = .returned (.tuple #[.int .i64 (E.getLastD 0), .bool (!E.isEmpty)]) ∧ Eq2 L A fin c a (c.length + 1) E ∧ Below w.heap.size w w'
set_option maxHeartbeats 1000000 in
set_option maxRecDepth 100000 in
theorem longest_any (so : Option Addr) (sc n : Nat) (L : List St) (s f : Nat) (co : Option Addr) (cl cc : Nat) (c : List Int) (a : Nat) (w : World) (hn : n = L.length) (hs : RdS w so L) (hg : gdB L s f = true) (he : eS L ≤ 1000000) (hf : fS L ≤ 1000000) (hc : RdI w co c) (hcl : cl = c.length) (hcm : cl ≤ 1000000) (ha : a ≤ cl) :
    Calls Tryd.prog 27 #[.agg #[.slice so n sc, .int .i64 s, .int .i64 f], .slice co cl cc, .int .i64 a] w fun e w' => LonQ w L (Clo L (· = (s : Int))) f c a e w' := by
  have HC := hid (ends_any so sc n L s f co cl cc c a (w.alloc (.cells #[.slice so n sc, .int .i64 s, .int .i64 f] 28)) hn (hs.below below_box) hg he hf (hc.below below_box) hcl hcm ha)
  have HCL := hid hcl
  clear hs hg he hf hc hn hcl
  go_enter Tryd.func27, Tryd.ntmps27
  go_wp2_with fail
  refine HC.out.mono ?_
  rintro e w1 ⟨E, vo, vc, rfl, o1, heq, b1⟩
  have HB := hid (box_trans (show Below (w.heap.size + 1) (w.alloc (.cells #[.slice so n sc, .int .i64 s, .int .i64 f] 28)) w1 by simpa using b1))
  have HQ := hid heq
  have hEl := heq.len
  have hle : E.length ≤ 1000001 := by have := HCL.out; omega
  by_cases hE : E.length = 0
  · have hE' : E = [] := List.eq_nil_of_length_eq_zero hE
    subst hE'
    clear o1 heq b1 HC
    go_wp2
    go_ret2
    exact ⟨[], rfl, HQ.out, HB.out⟩
  · obtain ⟨g, rfl, _, _, hcell⟩ := own_at o1 (last_at (E := E) (by omega))
    have hne : E.isEmpty = false := by cases E with
      | nil => simp at hE
      | cons x l => rfl
    have HNE := hid hne
    obtain ⟨x, hx⟩ : ∃ x, x = E.getLastD 0 := ⟨_, rfl⟩
    rw [← hx] at hcell
    have HX := hid hx
    obtain ⟨m, hm⟩ : ∃ m, m = E.length := ⟨_, rfl⟩
    rw [← hm] at hcell hE hle ⊢
    have b0 : ((m : Int) == 0) = false := beq_eq_false_iff_ne.2 (by omega)
    obtain ⟨m1, hm1⟩ : ∃ m1, m1 = m - 1 := ⟨_, rfl⟩
    rw [← hm1] at hcell
    have i1 : (m : Int) - 1 = (m1 : Int) := by omega
    have i2 : (m1 : Int) < (m : Int) := by omega
    have i3 : (0 : Int) ≤ (m1 : Int) := by omega
    clear o1 heq b1 HC hm hEl hm1 hne hx
    go_wp2
    go_ret2
    exact ⟨E, by rw [HNE.out, ← HX.out]; rfl, HQ.out, HB.out⟩
/-- Does an automaton take a list? -/
noncomputable def tk (L : List St) (s f : Int) (c : List Int) : Bool := @decide (Rd L (Clo L (· = s)) c f) (Classical.propDecidable _)
theorem tk_iff {L : List St} {s f : Int} {c : List Int} : tk L s f c = true ↔ Rd L (Clo L (· = s)) c f := by unfold tk; simp
theorem tk_last {L : List St} {s f : Int} {c E : List Int} (h : Eq2 L (Clo L (· = s)) f c 0 (c.length + 1) E) : tk L s f c = (!E.isEmpty && (E.getLastD 0 == (c.length : Int))) := by
  rw [Bool.eq_iff_iff, tk_iff]
  have h0 : Rd L (Clo L (· = s)) c f ↔ (c.length : Int) ∈ E := by
    rw [h.iff]
    constructor
    · intro hr
      exact ⟨c.length, rfl, Nat.zero_le _, by omega, by rw [csb_all]; exact hr⟩
    · rintro ⟨j, h1, _, _, h4⟩
      have : j = c.length := by omega
      subst this
      rw [csb_all] at h4; exact h4
  rw [h0]
  simp only [Bool.and_eq_true, Bool.not_eq_true', beq_iff_eq]
  constructor
  · intro hm
    have hpos : 0 < E.length := List.length_pos_of_mem hm
    have hl := last_at hpos
    have hmem := List.mem_of_getElem? hl
    obtain ⟨j, hj, _, h3, _⟩ := (h.iff _).1 hmem
    refine ⟨by cases E with
      | nil => simp at hpos
      | cons x l => rfl, ?_⟩
    obtain ⟨i, hi⟩ := List.mem_iff_getElem?.1 hm
    have hil := (List.getElem?_eq_some_iff.1 hi).1
    by_cases e : i = E.length - 1
    · rw [e, hl] at hi; exact Option.some.inj hi
    · have h5 := (List.pairwise_iff_getElem.1 h.ris) i (E.length - 1) hil (by omega) (by omega)
      have h6 := (List.getElem?_eq_some_iff.1 hi).2
      have h7 := (List.getElem?_eq_some_iff.1 hl).2
      rw [h6, h7] at h5
      omega
  · rintro ⟨h1, h2⟩
    have hpos : 0 < E.length := by cases E with
      | nil => simp at h1
      | cons x l => simp
    rw [← h2]
    exact List.mem_of_getElem? (last_at hpos)
set_option maxHeartbeats 1000000 in
set_option maxRecDepth 100000 in
theorem takes_any (so : Option Addr) (sc n : Nat) (L : List St) (s f : Nat) (co : Option Addr) (cl cc : Nat) (c : List Int) (w : World) (hn : n = L.length) (hs : RdS w so L) (hg : gdB L s f = true) (he : eS L ≤ 1000000) (hf : fS L ≤ 1000000) (hc : RdI w co c) (hcl : cl = c.length) (hcm : cl ≤ 1000000) :
    Calls Tryd.prog 19 #[.agg #[.slice so n sc, .int .i64 s, .int .i64 f], .slice co cl cc] w fun e w' => e = .returned (.bool (tk L s f c)) ∧ Below w.heap.size w w' := by
  have HC := hid (show Calls Tryd.prog 27 #[.agg #[.slice so n sc, .int .i64 s, .int .i64 f], .slice co cl cc, .int .i64 0] (w.alloc (.cells #[.slice so n sc, .int .i64 s, .int .i64 f] 28)) _ from longest_any so sc n L s f co cl cc c 0 (w.alloc (.cells #[.slice so n sc, .int .i64 s, .int .i64 f] 28)) hn (hs.below below_box) hg he hf (hc.below below_box) hcl hcm (Nat.zero_le _))
  have HCL := hid hcl
  clear hs hg he hf hc hn hcl
  go_enter Tryd.func19, Tryd.ntmps19
  go_wp2_with fail
  refine HC.out.mono ?_
  rintro e w1 ⟨E, rfl, heq, b1⟩
  have HB := hid (box_trans (show Below (w.heap.size + 1) (w.alloc (.cells #[.slice so n sc, .int .i64 s, .int .i64 f] 28)) w1 by simpa using b1))
  have HT := hid (tk_last heq)
  rw [← HCL.out] at HT
  obtain ⟨x, hx⟩ : ∃ x, x = E.getLastD 0 := ⟨_, rfl⟩
  rw [← hx] at HT ⊢
  clear heq b1 HC hx
  rcases bool_cases E.isEmpty with h | h
  · rw [h] at HT ⊢
    have HT' := hid (show tk L s f c = false by rw [HT.out]; rfl)
    go_wp2
    go_ret
    exact ⟨by rw [HT'.out]; rfl, HB.out⟩
  · rw [h] at HT ⊢
    have HT' := hid (show tk L s f c = (x == (cl : Int)) by rw [HT.out]; rfl)
    go_wp2
    go_ret
    exact ⟨by rw [HT'.out]; rfl, HB.out⟩
end Go.Proofs.YteacehfihogmpaaDoor
