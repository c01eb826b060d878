/- Sets of states as automata tell them. -/
import Derived.Test.YtbabidhhdfakjaaDoorRunMath
import Derived.Shelf.Sort.Plain
import Derived.Shelf.Slices.In.SortNone
import Derived.Test.YtbabidhhdfakjaaDoorProg
import Derived.Test.YtbabidhhdfakjaaDoorClosed
import Derived.Test.YtbabidhhdfakjaaDoorRun
namespace Go.Proofs.YtbabidhhdfakjaaDoor

/-- The frees of all states. -/
def fls (L : List St) : List (List Int) := L.map (·.2)
theorem fls_at {L : List St} {k : Nat} {s : St} (h : L[k]? = some s) : (fls L)[k]? = some s.2 := by unfold fls; rw [List.getElem?_map, h]; rfl
/-- Where one comes from the states of A by a class. -/
def StA (L : List St) (A : Int → Prop) (c : Int) (t : Int) : Prop := ∃ y, A y ∧ ∃ s, L[y.toNat]? = some s ∧ ∃ e ∈ s.1, e.2 = t ∧ c ∈ e.1
theorem rch_fls {L : List St} {n : Nat} {FL : List (List Int)} (hl : FL.length = L.length) (h : ∀ (k : Nat) (s : St) (g : List Int), L[k]? = some s → FL[k]? = some g → FOk n s g) (A : Int → Prop) (x : Int) : Rch FL A x ↔ Rch (fls L) A x := by
  constructor
  · intro hx
    induction hx with
    | base h1 => exact .base h1
    | step _ h2 h3 ih =>
      rename_i y t l _
      have hk := (List.getElem?_eq_some_iff.1 h2).1
      have e : L[y.toNat]? = some L[y.toNat] := List.getElem?_eq_getElem (by omega)
      exact .step ih (fls_at e) (((h _ _ _ e h2).2 t).1 h3)
  · intro hx
    induction hx with
    | base h1 => exact .base h1
    | step _ h2 h3 ih =>
      rename_i y t l _
      unfold fls at h2
      rw [List.getElem?_map] at h2
      obtain ⟨s, hs, rfl⟩ := Option.map_eq_some_iff.1 h2
      have hk := (List.getElem?_eq_some_iff.1 hs).1
      have e : FL[y.toNat]? = some FL[y.toNat] := List.getElem?_eq_getElem (by omega)
      exact .step ih e (((h _ _ _ hs e).2 t).2 h3)
/-- The set of one class. -/
theorem and_onl {m : Nat} {c : Int} {oc : Nat} (h : oc = if 0 ≤ c ∧ c < 64 then 2 ^ c.toNat else 0) : m &&& oc ≠ 0 ↔ (0 ≤ c ∧ c < 64) ∧ m.testBit c.toNat = true := by
  by_cases hc : 0 ≤ c ∧ c < 64
  · rw [if_pos hc] at h
    subst h
    constructor
    · intro h
      refine ⟨hc, ?_⟩
      cases hb : m.testBit c.toNat with
      | true => rfl
      | false =>
        refine absurd ?_ h
        apply Nat.eq_of_testBit_eq
        intro i
        rw [Nat.testBit_and, Nat.testBit_two_pow, Nat.zero_testBit]
        by_cases e : c.toNat = i
        · rw [← e, hb]; rfl
        · simp [e]
    · rintro ⟨_, hb⟩ h0
      have h1 : (m &&& 2 ^ c.toNat).testBit c.toNat = true := by rw [Nat.testBit_and, hb, Nat.testBit_two_pow]; simp
      rw [h0] at h1
      simp at h1
  · rw [if_neg hc] at h
    subst h
    simp [hc]
theorem stp_sta {L : List St} {n : Nat} {WL : List (List Wy)} {N : List Int} {c : Int} {oc : Nat} (hl : WL.length = L.length) (h : ∀ (k : Nat) (s : St) (g : List Wy), L[k]? = some s → WL[k]? = some g → WOk n s g) (hoc : oc = if 0 ≤ c ∧ c < 64 then 2 ^ c.toNat else 0)
    (hcl : ∀ s ∈ L, ∀ e ∈ s.1, ∀ c ∈ e.1, 0 ≤ c ∧ c < (64 : Int)) (t : Int) : Stp WL N oc t ↔ StA L (· ∈ N) c t := by
  constructor
  · rintro ⟨s, hs, l, hl', x, hx, h1, h2⟩
    have hk := (List.getElem?_eq_some_iff.1 hl').1
    have e : L[s.toNat]? = some L[s.toNat] := List.getElem?_eq_getElem (by omega)
    rw [and_onl hoc] at h2
    obtain ⟨e', he', h3, h4⟩ := ((h _ _ _ e hl').tell t c.toNat).1 ⟨x, hx, h1, h2.2⟩
    exact ⟨s, hs, _, e, e', he', h3, by rw [show c = ((c.toNat : Nat) : Int) by omega]; exact h4⟩
  · rintro ⟨s, hs, st, hst, e, he, h1, h2⟩
    have hk := (List.getElem?_eq_some_iff.1 hst).1
    have eW : WL[s.toNat]? = some WL[s.toNat] := List.getElem?_eq_getElem (by omega)
    have hcb := hcl st (List.mem_of_getElem? hst) e he c h2
    obtain ⟨x, hx, h3, h4⟩ := ((h _ _ _ hst eW).tell t c.toNat).2 ⟨e, he, h1, by rw [show ((c.toNat : Nat) : Int) = c by omega]; exact h2⟩
    exact ⟨s, hs, _, eW, x, hx, h3, (and_onl hoc).2 ⟨hcb, h4⟩⟩
/-- What Closure tells, and Step; the sets while a list is read. -/
def Clo (L : List St) (A : Int → Prop) : Int → Prop := Rch (fls L) A
def Nxt (L : List St) (A : Int → Prop) (c : Int) : Int → Prop := Clo L (StA L A c)
def Rd (L : List St) (A : Int → Prop) (c : List Int) : Int → Prop := c.foldl (Nxt L) A
theorem Rd_snoc (L : List St) (A : Int → Prop) (c : List Int) (a : Int) : Rd L A (c ++ [a]) = Nxt L (Rd L A c) a := by unfold Rd; rw [List.foldl_append]; rfl
theorem StA.congr {L : List St} {A B : Int → Prop} (h : ∀ x, A x ↔ B x) (c t : Int) : StA L A c t ↔ StA L B c t :=
  ⟨fun ⟨y, h1, h2⟩ => ⟨y, (h y).1 h1, h2⟩, fun ⟨y, h1, h2⟩ => ⟨y, (h y).2 h1, h2⟩⟩
theorem Clo.congr {L : List St} {A B : Int → Prop} (h : ∀ x, A x ↔ B x) (t : Int) : Clo L A t ↔ Clo L B t := ⟨Rch.mono fun x => (h x).1, Rch.mono fun x => (h x).2⟩
theorem Nxt.congr {L : List St} {A B : Int → Prop} (h : ∀ x, A x ↔ B x) (c t : Int) : Nxt L A c t ↔ Nxt L B c t := Clo.congr (StA.congr h c) t
theorem Clo.self {L : List St} {A : Int → Prop} (t : Int) : Clo L (Clo L A) t ↔ Clo L A t := ⟨Rch.idem, fun h => .base h⟩
/-- What is reached lies among the states. -/
theorem Rch.bound {FL : List (List Int)} {A : Int → Prop} {n : Int} (hA : ∀ x, A x → 0 ≤ x ∧ x < n) (hF : ∀ l ∈ FL, ∀ t ∈ l, 0 ≤ t ∧ t < n) {x : Int} (h : Rch FL A x) : 0 ≤ x ∧ x < n := by
  induction h with
  | base h1 => exact hA _ h1
  | step _ h2 h3 _ => exact hF _ (List.mem_of_getElem? h2) _ h3
end Go.Proofs.YtbabidhhdfakjaaDoor
/- The library's sort, laid at this program. -/
namespace Go.Proofs
open Go.Shelf
def Tryd.lays189_ren : Go.Shelf.Ren := ⟨fun | 189 => 76 | 125 => 115 | 257 => 114 | 128 => 129 | 129 => 130 | 294 => 120 | 295 => 121 | 296 => 122 | 297 => 123 | 298 => 124 | 299 => 125 | 216 => 126 | 300 => 127 | 301 => 128 | 328 => 131 | 329 => 132 | 330 => 133 | 331 => 134 | 332 => 135 | 215 => 136 | 343 => 137 | n => n, fun | 28 => 22 | 3 => 3 | 46 => 141 | 0 => 0 | 51 => 155 | 53 => 96 | 4 => 4 | 183 => 149 | 182 => 148 | 131 => 52 | 5 => 5 | 9 => 9 | 218 => 156 | 222 => 160 | 228 => 162 | 229 => 47 | n => n, fun | n => n⟩
theorem Tryd.lays189 : Go.Proofs.Lays.n189 Tryd.prog Tryd.lays189_ren := {
  mixed := by kernel_rfl
  f125 := Tryd.func115.trans (congrArg some (by kernel_rfl))
  f128 := Tryd.func129.trans (congrArg some (by kernel_rfl))
  f129 := Tryd.func130.trans (congrArg some (by kernel_rfl))
  f189 := Tryd.func76.trans (congrArg some (by kernel_rfl))
  f215 := Tryd.func136.trans (congrArg some (by kernel_rfl))
  f216 := Tryd.func126.trans (congrArg some (by kernel_rfl))
  f257 := Tryd.func114.trans (congrArg some (by kernel_rfl))
  f294 := Tryd.func120.trans (congrArg some (by kernel_rfl))
  f295 := Tryd.func121.trans (congrArg some (by kernel_rfl))
  f296 := Tryd.func122.trans (congrArg some (by kernel_rfl))
  f297 := Tryd.func123.trans (congrArg some (by kernel_rfl))
  f298 := Tryd.func124.trans (congrArg some (by kernel_rfl))
  f299 := Tryd.func125.trans (congrArg some (by kernel_rfl))
  f300 := Tryd.func127.trans (congrArg some (by kernel_rfl))
  f301 := Tryd.func128.trans (congrArg some (by kernel_rfl))
  f328 := Tryd.func131.trans (congrArg some (by kernel_rfl))
  f329 := Tryd.func132.trans (congrArg some (by kernel_rfl))
  f330 := Tryd.func133.trans (congrArg some (by kernel_rfl))
  f331 := Tryd.func134.trans (congrArg some (by kernel_rfl))
  f332 := Tryd.func135.trans (congrArg some (by kernel_rfl))
  f343 := Tryd.func137.trans (congrArg some (by kernel_rfl))
  t0 := Tryd.underlying0
  a0 := Tryd.isAgg0
  z0 := Tryd.sizeOf0
  v0 := Tryd.zeroValue0
  t3 := Tryd.underlying3
  a3 := Tryd.isAgg3
  z3 := Tryd.sizeOf3
  v3 := Tryd.zeroValue3
  t4 := Tryd.underlying4
  a4 := Tryd.isAgg4
  z4 := Tryd.sizeOf4
  v4 := Tryd.zeroValue4
  t5 := Tryd.underlying5
  a5 := Tryd.isAgg5
  z5 := Tryd.sizeOf5
  v5 := Tryd.zeroValue5
  t9 := Tryd.underlying9
  a9 := Tryd.isAgg9
  z9 := Tryd.sizeOf9
  v9 := Tryd.zeroValue9
  t28 := Tryd.underlying22
  a28 := Tryd.isAgg22
  z28 := Tryd.sizeOf22
  v28 := Tryd.zeroValue22
  t46 := Tryd.underlying141
  a46 := Tryd.isAgg141
  z46 := Tryd.sizeOf141
  v46 := Tryd.zeroValue141
  t51 := Tryd.underlying155
  a51 := Tryd.isAgg155
  z51 := Tryd.sizeOf155
  v51 := Tryd.zeroValue155
  t53 := Tryd.underlying96
  a53 := Tryd.isAgg96
  z53 := Tryd.sizeOf96
  v53 := Tryd.zeroValue96
  t131 := Tryd.underlying52
  a131 := Tryd.isAgg52
  z131 := Tryd.sizeOf52
  v131 := Tryd.zeroValue52
  t182 := Tryd.underlying148
  a182 := Tryd.isAgg148
  z182 := Tryd.sizeOf148
  v182 := Tryd.zeroValue148
  t183 := Tryd.underlying149
  a183 := Tryd.isAgg149
  z183 := Tryd.sizeOf149
  v183 := Tryd.zeroValue149
  t218 := Tryd.underlying156
  a218 := Tryd.isAgg156
  z218 := Tryd.sizeOf156
  v218 := Tryd.zeroValue156
  t222 := Tryd.underlying160
  a222 := Tryd.isAgg160
  z222 := Tryd.sizeOf160
  v222 := Tryd.zeroValue160
  t228 := Tryd.underlying162
  a228 := Tryd.isAgg162
  z228 := Tryd.sizeOf162
  v228 := Tryd.zeroValue162
  t229 := Tryd.underlying47
  a229 := Tryd.isAgg47
  z229 := Tryd.sizeOf47
  v229 := Tryd.zeroValue47 }
open Go.Sort Go.RowKit in
theorem Tryd.slices_Sort_int (blk off cap : Nat) (zs : List Int) (w : World) (hH : Holds (Value.int .i64) w blk off zs.toArray) (hblk : blk < w.heap.size) (hsz : zs.length < 4611686018427387904) :
    Calls Tryd.prog 76 #[.slice (some ⟨blk, off, none⟩) zs.length cap] w fun e w' =>
      e = .returned (.tuple #[]) ∧ ∃ n os, w' = grow (putRow (Value.int .i64) (Sort.ahead w n) blk off (zs.mergeSort fun x y => decide (x ≤ y)).toArray) os := Any.slices_Sort_int Tryd.lays189 blk off cap zs w hH hblk hsz
open Go.RowKit Go.Sort in
theorem Tryd.slices_Sort_int_none (p : Option Addr) (cap : Nat) (w : World) :
    Calls Tryd.prog 76 #[.slice p 0 cap] w fun e w' => e = .returned (.tuple #[]) ∧ w' = w := Any.slices_Sort_int_none Tryd.lays189 p cap w
end Go.Proofs
/- The contract of slices.Sort at a row of the call's own. -/
namespace Go.Proofs.YtbabidhhdfakjaaDoor
open Go.RowKit Go.Sort

def srtd (S : List Int) : List Int := S.mergeSort fun x y => decide (x ≤ y)
theorem srtd_len (S : List Int) : (srtd S).length = S.length := List.length_mergeSort _
theorem srtd_mem (S : List Int) (x : Int) : x ∈ srtd S ↔ x ∈ S := List.mem_mergeSort
theorem srtd_le (S : List Int) : (srtd S).Pairwise (· ≤ ·) := by
  have h := List.pairwise_mergeSort (le := fun x y : Int => decide (x ≤ y)) (fun a b c h1 h2 => by simp at *; omega) (fun a b => by simp; omega) S
  exact h.imp fun h => by simpa using h
theorem srtd_lt (S : List Int) (hn : S.Nodup) : (srtd S).Pairwise (· < ·) := by
  have h1 := srtd_le S
  have h2 : (srtd S).Nodup := (List.mergeSort_perm S _).nodup_iff.2 hn
  rw [List.nodup_iff_pairwise_ne] at h2
  exact (h1.and h2).imp fun ⟨a, b⟩ => by omega
/-- Rising lists with the same members are the same. -/
theorem rising_eq : ∀ {a b : List Int}, a.Pairwise (· < ·) → b.Pairwise (· < ·) → (∀ x, x ∈ a ↔ x ∈ b) → a = b
  | [], [], _, _, _ => rfl
  | [], y :: b, _, _, h => by have := (h y).2 (.head _); simp at this
  | x :: a, [], _, _, h => by have := (h x).1 (.head _); simp at this
  | x :: a, y :: b, ha, hb, h => by
    rw [List.pairwise_cons] at ha hb
    have e : x = y := by
      have h1 := (h x).1 (.head _)
      have h2 := (h y).2 (.head _)
      rcases List.mem_cons.1 h1 with h1 | h1
      · exact h1
      · rcases List.mem_cons.1 h2 with h2 | h2
        · exact h2.symm
        · have := ha.1 y h2; have := hb.1 x h1; omega
    subst e
    rw [rising_eq ha.2 hb.2 fun z => ?_]
    constructor
    · intro hz
      rcases List.mem_cons.1 ((h z).1 (.tail _ hz)) with h1 | h1
      · have := ha.1 z hz; omega
      · exact h1
    · intro hz
      rcases List.mem_cons.1 ((h z).2 (.tail _ hz)) with h1 | h1
      · have := hb.1 z hz; omega
      · exact h1
theorem sort_own {B P ib : Nat} (vo : Option Addr) (m vc : Nat) (S : List Int) (w : World) (h : w.ownsRow B 3 1 (.slice vo m vc) m (i64s S)) (hm : m ≤ 1000000) :
    Calls Tryd.prog 76 #[.slice vo m vc] w fun e w' => e = .returned (.tuple #[]) ∧ w'.ownsRow B 3 1 (.slice vo m vc) m (i64s (srtd S)) ∧ Ch P ib (Value.slice vo m vc).ownBlock w w' := by
  have hl := own_len h
  by_cases h0 : m = 0
  · subst h0
    have hS : S = [] := List.eq_nil_of_length_eq_zero hl
    subst hS
    refine (Tryd.slices_Sort_int_none vo vc w).mono ?_
    rintro e w' ⟨rfl, rfl⟩
    exact ⟨rfl, by simpa [srtd] using h, Ch.refl _ _ _ _⟩
  · rcases h.2 with ⟨_, h1⟩ | ⟨g, cap, cur, hv, hB, hg, hmc, hcm, hcs, htk⟩
    · exact absurd h1 h0
    · simp only [Value.slice.injEq, true_and] at hv
      obtain ⟨rfl, rfl⟩ := hv
      have hH : Holds (Value.int .i64) w g 0 S.toArray := fun j hj => by
        have hj' : j < S.length := by simpa using hj
        have e : S[j]? = some S[j] := List.getElem?_eq_getElem hj'
        obtain ⟨g', hg', _, _, hc⟩ := own_at h e
        cases hg'
        rw [Nat.zero_add]
        refine ⟨?_, frozen_of_row w g j _ 3 hg⟩
        rw [hc]
        simp [hj']
      have hs := Tryd.slices_Sort_int g 0 vc S w hH (Array.getElem?_eq_some_iff.1 hg).1 (by omega)
      rw [hl] at hs
      refine hs.mono ?_
      rintro e w' ⟨rfl, n, os, rfl⟩
      have hheap : (grow (putRow (Value.int .i64) (Sort.ahead w n) g 0 (S.mergeSort fun x y => decide (x ≤ y)).toArray) os).heap = (putRow (Value.int .i64) w g 0 (srtd S).toArray).heap ++ os := rfl
      have hsz : (putRow (Value.int .i64) w g 0 (srtd S).toArray).heap.size = w.heap.size := by simp [putRow, mapBlock]
      have hgl := (Array.getElem?_eq_some_iff.1 hg).1
      have hgn : (grow (putRow (Value.int .i64) (Sort.ahead w n) g 0 (S.mergeSort fun x y => decide (x ≤ y)).toArray) os).heap[g]? = some (.cells (putCells (Value.int .i64) 0 (srtd S).toArray cur) 3) := by
        rw [hheap, Array.getElem?_append_left (by omega)]
        show (w.heap.modify g (onCells (putCells (Value.int .i64) 0 (srtd S).toArray)))[g]? = _
        rw [Array.getElem?_modify, if_pos rfl, hg]
        rfl
      refine ⟨rfl, ⟨by rw [i64s_len, srtd_len, hl]; omega, .inr ⟨g, vc, _, rfl, hB, hgn, hmc, hcm, ?_, ?_⟩⟩, ⟨rfl, rfl, rfl, ?_, fun k hk _ _ hne => ?_⟩⟩
      · simp [putCells]; omega
      · apply List.ext_getElem?
        intro k
        rw [List.getElem?_take]
        split
        · rename_i hk
          have hk' : k < (srtd S).length := by rw [srtd_len]; omega
          rw [i64s_at, List.getElem?_eq_getElem hk', Array.getElem?_toList]
          have hkc : k < cur.size := by omega
          simp [putCells, hkc, hk']
        · rename_i hk
          rw [i64s_at, List.getElem?_eq_none (by rw [srtd_len]; omega)]
          rfl
      · rw [hheap, Array.size_append]; omega
      · rw [hheap, Array.getElem?_append_left (by omega)]
        have : g ≠ k := fun e => hne (by rw [e]; rfl)
        simp [putRow, mapBlock, Array.getElem?_modify, this]
end Go.Proofs.YtbabidhhdfakjaaDoor
/- The contracts of good, Closure and Step (package nfa). -/
namespace Go.Proofs.YtbabidhhdfakjaaDoor
open Go.RowKit

/-- Is it an automaton? -/
def gdB (L : List St) (s f : Int) : Bool := (chk L s f).1 == 0
theorem fsb_zero {n : Int} : ∀ {L : List St} {i : Int}, (fsb n i L).1 = 0 → ∀ s ∈ L, fmd n s = true
  | [], _, _, _, h => by simp at h
  | x :: l, i, h, s, hs => by
    rcases Bool.eq_false_or_eq_true (fmd n x) with hx | hx
    · rw [fsb_ok hx] at h
      rcases List.mem_cons.1 hs with rfl | hs
      · exact hx
      · exact fsb_zero h s hs
    · rw [fsb_no hx] at h; simp at h
structure Gdd (L : List St) (s f : Int) : Prop where
  few : L.length ≤ 4096
  st : 0 ≤ s ∧ s < L.length
  fi : 0 ≤ f ∧ f < L.length
  all : ∀ x ∈ L, fmd L.length x = true
theorem gdd_of {L : List St} {s f : Int} (h : gdB L s f = true) : Gdd L s f := by
  unfold gdB at h
  have h' : (chk L s f).1 = 0 := by simpa using h
  by_cases h1 : 4096 < L.length
  · rw [chk_many h1] at h'; simp at h'
  · rcases Bool.eq_false_or_eq_true (wn s L.length) with hs | hs
    · rcases Bool.eq_false_or_eq_true (wn f L.length) with hf | hf
      · rw [chk_go h1 hs hf] at h'
        exact ⟨by omega, wn_iff.1 hs, wn_iff.1 hf, fsb_zero h'⟩
      · rw [chk_start h1 (.inr hf)] at h'; simp at h'
    · rw [chk_start h1 (.inl hs)] at h'; simp at h'
theorem Gdd.cls {L : List St} {s f : Int} (h : Gdd L s f) : ∀ s ∈ L, ∀ e ∈ s.1, ∀ c ∈ e.1, 0 ≤ c ∧ c < (64 : Int) := fun x hx e he c hc => by
  have h1 := h.all x hx
  unfold fmd at h1
  simp only [Bool.and_eq_true] at h1
  have := rs_all (edg_all h1.1 e he).2 c hc
  omega
theorem Gdd.tos {L : List St} {s f : Int} (h : Gdd L s f) : ∀ x ∈ L, ∀ e ∈ x.1, 0 ≤ e.2 ∧ e.2 < (L.length : Int) := fun x hx e he => by
  have h1 := h.all x hx
  unfold fmd at h1
  simp only [Bool.and_eq_true] at h1
  exact wn_iff.1 (edg_all h1.1 e he).1
theorem Gdd.frees {L : List St} {s f : Int} (h : Gdd L s f) : ∀ l ∈ fls L, ∀ t ∈ l, 0 ≤ t ∧ t < (L.length : Int) := fun l hl t ht => by
  unfold fls at hl
  obtain ⟨x, hx, rfl⟩ := List.mem_map.1 hl
  have h1 := h.all x hx
  unfold fmd at h1
  simp only [Bool.and_eq_true] at h1
  exact wn_iff.1 (fre_all h1.2 t ht)
theorem good_any (so : Option Addr) (sc n : Nat) (L : List St) (s f : Int) (w : World) (hn : n = L.length) (hs : RdS w so L) (hl : n ≤ most) :
    Calls Tryd.prog 63 #[.agg #[.slice so n sc, .int .i64 s, .int .i64 f]] w fun e w' => e = .returned (.bool (gdB L s f)) ∧ Below w.heap.size w w' := by
  have HS := hid hs
  have HN := hid hn
  have HL := hid hl
  clear hs hn hl
  go_enter Tryd.func63, Tryd.ntmps63
  go_wp2_with fail
  refine (check_any so sc n L s f _ HN.out (HS.out.below below_box) HL.out).mono ?_
  rintro e w1 ⟨rfl, b1⟩
  have HB := hid (box_trans (show Below (w.heap.size + 1) (w.alloc (.cells #[.slice so n sc, .int .i64 s, .int .i64 f] 28)) w1 by simpa using b1))
  have HG := hid (show gdB L s f = ((chk L s f).1 == 0) from rfl)
  clear b1
  go_wp2
  go_ret
  exact ⟨by rw [HG.out]; rfl, HB.out⟩
/-- What a call leaves that tells a set of states: a rising list in a row of its own. -/
def SetQ (w : World) (n : Nat) (A : Int → Prop) (e : Ending) (w' : World) : Prop :=
  ∃ (T : List Int) (vo : Option Addr) (vc : Nat), e = .returned (.slice vo T.length vc) ∧ w'.ownsRow w.heap.size 3 1 (.slice vo T.length vc) T.length (i64s T) ∧ T.Pairwise (· < ·) ∧ (∀ x ∈ T, 0 ≤ x ∧ x < (n : Int)) ∧ (∀ x, x ∈ T ↔ A x) ∧ Below w.heap.size w w'
theorem own_mono' {w : World} {B B' e size n : Nat} {v : Value} {xs : List Value} (h : w.ownsRow B e size v n xs) (hb : B' ≤ B) : w.ownsRow B' e size v n xs := by
  refine ⟨h.1, ?_⟩
  rcases h.2 with h' | ⟨q, cap, cur, hv, hB, rest⟩
  · exact .inl h'
  · exact .inr ⟨q, cap, cur, hv, Nat.le_trans hb hB, rest⟩
theorem ch_below {P ib N : Nat} {row : Option Nat} {w w' : World} (h : Ch P ib row w w') (hP : N ≤ P) (hI : N ≤ ib) (hr : ∀ k, row = some k → N ≤ k) (hN : N ≤ w.heap.size) : Below N w w' :=
  ⟨h.os, h.tape, h.output, h.size, fun k hk => h.block k (by omega) (by omega) (by omega) (fun e => by have := hr k e.symm; omega)⟩
theorem rdj_of {P ib : Nat} {w : World} {lo : Option Addr} {l : List Int} {N : Nat} (h : RdI w lo l) (hb : ∀ (k : Nat) (z : Int), l[k]? = some z → ∃ a : Addr, lo = some a ∧ a.block < N) (hP : N ≤ P) (hI : N ≤ ib) : RdJ P ib w lo l := fun k z hk => by
  obtain ⟨a, h1, h2, h3⟩ := h k z hk
  obtain ⟨a', h4, h5⟩ := hb k z hk
  rw [h1] at h4
  cases h4
  exact ⟨a, h1, h2, by omega, by omega, h3⟩
theorem rdj_own {P ib B m vc : Nat} {w : World} {vo : Option Addr} {l : List Int} (h : w.ownsRow B 3 1 (.slice vo m vc) m (i64s l)) (hP : P < B) (hI : ib < B) : RdJ P ib w vo l := fun k z hk => by
  obtain ⟨g, e, hB, hg, hc⟩ := own_at h hk
  exact ⟨_, e, hg, by show g ≠ P; omega, by show g ≠ ib; omega, by rw [Addr.add_lit, Nat.zero_add]; exact hc⟩
theorem fl_bd {L : List St} {n : Nat} {FL : List (List Int)} (hl : FL.length = L.length) (h : ∀ (k : Nat) (s : St) (g : List Int), L[k]? = some s → FL[k]? = some g → FOk n s g) : ∀ l ∈ FL, ∀ t ∈ l, 0 ≤ t ∧ t < (n : Int) := fun l hl' t ht => by
  obtain ⟨k, hk⟩ := List.mem_iff_getElem?.1 hl'
  have hkl := (List.getElem?_eq_some_iff.1 hk).1
  exact (h k L[k] l (List.getElem?_eq_getElem (by omega)) hk).1 t ht
theorem wl_bd {L : List St} {n : Nat} {WL : List (List Wy)} (hl : WL.length = L.length) (h : ∀ (k : Nat) (s : St) (g : List Wy), L[k]? = some s → WL[k]? = some g → WOk n s g) : ∀ l ∈ WL, ∀ x ∈ l, x.1 < 18446744073709551616 ∧ 0 ≤ x.2 ∧ x.2 < (n : Int) := fun l hl' t ht => by
  obtain ⟨k, hk⟩ := List.mem_iff_getElem?.1 hl'
  have hkl := (List.getElem?_eq_some_iff.1 hk).1
  exact (h k L[k] l (List.getElem?_eq_getElem (by omega)) hk).bd t ht
theorem rdi_blk {w : World} {lo : Option Addr} {l : List Int} (h : RdI w lo l) : ∀ (k : Nat) (z : Int), l[k]? = some z → ∃ a : Addr, lo = some a ∧ a.block < w.heap.size := fun k z hk => by
  obtain ⟨a, h1, h2, _⟩ := h k z hk
  exact ⟨a, h1, h2⟩
set_option maxHeartbeats 2000000 in
set_option maxRecDepth 100000 in
theorem closure_any (so : Option Addr) (sc n : Nat) (L : List St) (s f : Int) (lo : Option Addr) (ln lc : Nat) (l : List Int) (w : World) (hn : n = L.length) (hs : RdS w so L) (hg : gdB L s f = true) (he : eS L ≤ 1000000) (hf : fS L ≤ 1000000) (hl : RdI w lo l) (hln : ln = l.length) (hlm : ln ≤ most) :
    Calls Tryd.prog 29 #[.agg #[.slice so n sc, .int .i64 s, .int .i64 f], .slice lo ln lc] w fun e w' => SetQ w n (Clo L (fun y => y ∈ l ∧ 0 ≤ y ∧ y < (n : Int))) e w' := by
  have hgd := gdd_of hg
  have HGD := hid hgd
  have HN := hid hn
  have HS := hid hs
  have HL := hid hl
  have HLN := hid hln
  have HLM := hid hlm
  have h4 : n ≤ 4096 := by have := hgd.few; omega
  have HE := hid he
  have HF := hid hf
  clear hs hl hln hlm hgd he hf hn
  go_enter Tryd.func29, Tryd.ntmps29
  go_wp2_with fail
  refine (good_any so sc n L s f _ HN.out (HS.out.below below_box) (by unfold most; omega)).mono ?_
  rintro e w1 ⟨rfl, b1⟩
  have b1' : Below (w.heap.size + 1) (w.alloc (.cells #[.slice so n sc, .int .i64 s, .int .i64 f] 28)) w1 := by simpa using b1
  obtain ⟨c0, c1, c2⟩ := box3 b1'
  have HB1 := hid (box_trans b1')
  clear b1 b1'
  go_wp2_with fail
  refine (runner_any so sc n L s f w1 HN.out (HS.out.below HB1.out) h4 HE.out HF.out (by rw [HN.out]; exact HGD.out.all)).mono ?_
  rintro e w2 ⟨P, wt, ft, ib, ws, fs, WL, FL, I, z, S1, rfl, hM, hmk, z0, z1, hWO, hFO, gP, gI, b2⟩
  have HB2 := hid (HB1.out.trans (b2.mono HB1.out.size))
  have hwl : WL.length = L.length := by have := hM.wl; have := HN.out; omega
  have hfl : FL.length = L.length := by have := hM.fl; have := HN.out; omega
  have hsz1 := HB1.out.size
  have HM := hid hM
  have HMK := hid hmk
  have HFO := hid hFO
  have HFL := hid hfl
  have hPB := hM.hPB
  have hIB := hM.hIB
  clear hM hmk hWO hFO b2 hwl hfl
  go_wp2_with fail
  refine (begin_any l lo ln lc S1 HM.out (rdj_of (HL.out.below HB2.out) (rdi_blk HL.out) (by omega) (by omega)) HLN.out HLM.out HMK.out z0 (by omega) (fl_bd HFL.out HFO.out) h4).mono ?_
  rintro e w3 ⟨v3, rfl, S, I', vo, vc, rfl, o3, hM3, hmk3, hiff, ch3, fr3⟩
  have HO3 := hid o3
  have HMK3 := hid hmk3
  have HIF := hid hiff
  have HB3 := hid (HB2.out.trans (ch_below ch3 (by omega) (by omega) (fun k e => by cases e) HB2.out.size))
  have hle := hmk3.le
  have hr3 := own_row o3
  have hw2 := HB2.out.size
  have HR3 := hid hr3
  clear o3 hM3 hmk3 hiff ch3 fr3 hr3
  go_wp2_with fail
  refine (sort_own (P := P) (ib := ib) vo S.length vc S w3 HO3.out (by omega)).mono ?_
  rintro e w4 ⟨rfl, o4, ch4⟩
  have HO4 := hid o4
  have HB4 := hid (HB3.out.trans (ch_below ch4 (by omega) (by omega) (fun k e => by have := HR3.out k e; omega) HB3.out.size))
  clear o4 ch4
  go_wp2
  go_ret
  refine ⟨srtd S, vo, vc, by rw [srtd_len]; rfl, by rw [srtd_len]; exact own_mono' HO4.out (by omega), srtd_lt S HMK3.out.nd, fun x hx => HMK3.out.bd x ((srtd_mem S x).1 hx), fun x => ?_, HB4.out⟩
  rw [srtd_mem, HIF.out x]
  exact rch_fls HFL.out HFO.out _ x
end Go.Proofs.YtbabidhhdfakjaaDoor
