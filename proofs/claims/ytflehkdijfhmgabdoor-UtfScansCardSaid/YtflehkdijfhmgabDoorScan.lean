/- The contract of scan (package utf): of bytes that begin at a place it tells the marks of the sure runes and how many bytes they have. -/
import Derived.Test.YtflehkdijfhmgabDoorFault
import Derived.Deep.AppendLies
namespace Go.Proofs.YtflehkdijfhmgabDoor
open Go.RowKit

theorem Tryd.info50 : (Tryd.prog.info? 50).map (fun i => (i.zero, i.size, i.bytes)) = some (some (.agg #[.int .i64 0, .int .i64 0, .int .i32 0, .bool false]), 4, 24) := by kernel_rfl

/-- The cells of a mark. -/
def mkc (m : Mk) : List Value := [.int .i64 m.pl, .int .i64 m.wd, .int .i32 m.ru, .bool m.bad]
def mkcs (ms : List Mk) : List Value := ms.flatMap mkc
theorem mkcs_snoc (ms : List Mk) (m : Mk) : mkcs (ms ++ [m]) = mkcs ms ++ mkc m := by simp [mkcs]

theorem ofFn_all {k : Nat} (t : Array Value) (h : t.size = k) : t = Array.ofFn (fun i : Fin k => t.getD i undef) := by
  apply Array.ext
  · simp [h]
  · intro i h1 h2
    simp [Array.getD, h1]

theorem ofFnLit (f : Nat → Value) : Array.ofFn (fun i : Fin 87 => f i) = #[f 0, f 1, f 2, f 3, f 4, f 5, f 6, f 7, f 8, f 9, f 10, f 11, f 12, f 13, f 14, f 15, f 16, f 17, f 18, f 19, f 20, f 21, f 22, f 23, f 24, f 25, f 26, f 27, f 28, f 29, f 30, f 31, f 32, f 33, f 34, f 35, f 36, f 37, f 38, f 39, f 40, f 41, f 42, f 43, f 44, f 45, f 46, f 47, f 48, f 49, f 50, f 51, f 52, f 53, f 54, f 55, f 56, f 57, f 58, f 59, f 60, f 61, f 62, f 63, f 64, f 65, f 66, f 67, f 68, f 69, f 70, f 71, f 72, f 73, f 74, f 75, f 76, f 77, f 78, f 79, f 80, f 81, f 82, f 83, f 84, f 85, f 86] := by kernel_rfl

/-- What a slot of the frame holds. -/
def at_ (a : Act) (i : Nat) : Value := a.tmps.getD i undef

theorem frameLit (a : Act) (hs : a.tmps.size = 87) (hd : a.defers = []) (v0 v1 v4 v5 v6 v7 v8 v9 v10 : Value) (h0 : at_ a 0 = v0) (h1 : at_ a 1 = v1) (h4 : at_ a 4 = v4) (h5 : at_ a 5 = v5) (h6 : at_ a 6 = v6) (h7 : at_ a 7 = v7) (h8 : at_ a 8 = v8) (h9 : at_ a 9 = v9) (h10 : at_ a 10 = v10) :
    ∃ u : Nat → Value, a = { tmps := #[v0, v1, u 2, u 3, v4, v5, v6, v7, v8, v9, v10, u 11, u 12, u 13, u 14, u 15, u 16, u 17, u 18, u 19, u 20, u 21, u 22, u 23, u 24, u 25, u 26, u 27, u 28, u 29, u 30, u 31, u 32, u 33, u 34, u 35, u 36, u 37, u 38, u 39, u 40, u 41, u 42, u 43, u 44, u 45, u 46, u 47, u 48, u 49, u 50, u 51, u 52, u 53, u 54, u 55, u 56, u 57, u 58, u 59, u 60, u 61, u 62, u 63, u 64, u 65, u 66, u 67, u 68, u 69, u 70, u 71, u 72, u 73, u 74, u 75, u 76, u 77, u 78, u 79, u 80, u 81, u 82, u 83, u 84, u 85, u 86], defers := [] } := by
  obtain ⟨t, d⟩ := a
  subst hd
  refine ⟨fun i => t.getD i undef, ?_⟩
  simp only [at_] at h0 h1 h4 h5 h6 h7 h8 h9 h10
  subst h0 h1 h4 h5 h6 h7 h8 h9 h10
  exact congrArg (fun t => (Act.mk t [] : Act)) ((ofFn_all t hs).trans (ofFnLit fun i => t.getD i undef))

/-- What holds at a jump to each label. -/
structure scI (bk off n cap : Nat) (base : Int) (bs : List Int) (w : World) (a : Act) (wr : World) (s : Nat) (ms : List Mk) (v : Value) : Prop where
  part : Part base bs ms s
  own : wr.ownsRow w.heap.size 50 4 v ms.length (mkcs ms)
  below : Below w.heap.size w wr
  size : a.tmps.size = 87
  defers : a.defers = []
  t0 : at_ a 0 = .slice (some ⟨bk, off, none⟩) n cap
  t1 : at_ a 1 = .int .i64 base
  t4 : at_ a 4 = v
  t5 : ∃ q : Int, q = s ∧ at_ a 5 = .int .i64 q

def scJ (bk off n cap : Nat) (base : Int) (bs : List Int) (w : World) (l : Nat) (a : Act) (wr : World) : Prop :=
  ∃ (s : Nat) (ms : List Mk) (v : Value), scI bk off n cap base bs w a wr s ms v ∧
   (l = 0 ∨ (l = 1 ∧ frst (bs.drop s) = some (1, 65533, true))
    ∨ (l = 2 ∧ ∃ (k t : Nat) (p r : Int), p = t ∧ t = s + k ∧ frst (bs.drop s) = some (k, r, false) ∧ at_ a 6 = .int .i64 p ∧ at_ a 8 = .int .i32 r)
    ∨ (l = 3 ∧ ∃ (k m t : Nat) (p o r lo hi : Int), p = t ∧ t = s + k ∧ o = m ∧ Mid bs s k m r lo hi ∧ at_ a 6 = .int .i64 p ∧ at_ a 7 = .int .i64 o ∧ at_ a 8 = .int .i32 r ∧ at_ a 9 = .int .u8 lo ∧ at_ a 10 = .int .u8 hi))

def scμ (n : Nat) (l : Nat) (a : Act) (_ : World) : Nat :=
  16 * (n - (intOf (at_ a 5)).toNat) + (if l = 0 then 10 else if l = 3 then 2 + (intOf (at_ a 7)).toNat else 1)

/-- What the call comes to. -/
def scQ (base : Int) (bs : List Int) (w : World) (e : Ending) (w' : World) : Prop :=
  ∃ v, e = .returned (.tuple #[v, .int .i64 ((sc base bs).2 : Nat)]) ∧ w'.ownsRow w.heap.size 50 4 v (sc base bs).1.length (mkcs (sc base bs).1) ∧ Below w.heap.size w w'

theorem mkc_one (m : Mk) : ∀ u ∈ mkc m, u.oneCell' = true := by
  intro u hu
  simp only [mkc, List.mem_cons, List.mem_nil_iff, or_false] at hu
  rcases hu with rfl | rfl | rfl | rfl <;> rfl
theorem news_one (wr : World) (cs : Array Value) (t : TypeId) : ∀ j u, cs.toList[j]? = some u → (wr.alloc (.cells cs t)).cell? ((⟨wr.heap.size, 0, none⟩ : Addr).add j) = some u := World.news_of_block (heap_alloc_new wr _)
theorem news_two (wr : World) (o : Obj) (cs : Array Value) (t : TypeId) : ∀ j u, cs.toList[j]? = some u → ((wr.alloc o).alloc (.cells cs t)).cell? ((⟨wr.heap.size + 1, 0, none⟩ : Addr).add j) = some u := by
  have h := news_one (wr.alloc o) cs t
  simpa using h

set_option maxHeartbeats 4000000 in
theorem scan_any (bk off n cap : Nat) (base : Int) (bs : List Int) (w : World) (hl : bs.length = n) (hn : n ≤ 1000000000000) (hb0 : 0 ≤ base) (hb1 : base ≤ 1000000000000)
    (hbk : bk < w.heap.size) (hbd : ∀ i, i < n → 0 ≤ bs.getD i 0 ∧ bs.getD i 0 < 256) (hc : ∀ i, i < n → w.cell? ⟨bk, off + i, none⟩ = some (.int .u8 (bs.getD i 0))) :
    Calls Tryd.prog 27 #[.slice (some ⟨bk, off, none⟩) n cap, .int .i64 base] w (scQ base bs w) := by
  obtain ⟨i0, hi, hz0, hz1, hz2⟩ := info_parts Tryd.info50
  go_enter Tryd.func27, Tryd.ntmps27
  go_wp2
  refine wp_scope_many (scJ bk off n cap base bs w) (scμ n) ?pass ?first
  case first =>
    intro hp
    refine first3 hp rfl rfl rfl ?_
    clear hp
    go_wp2
    exact ⟨0, [], .slice none 0 0, ⟨Part.start base bs, World.ownsRow_nil _ _ _ _, Below.refl _ _, rfl, rfl, rfl, rfl, rfl, 0, rfl, rfl⟩, Or.inl rfl⟩
  case pass =>
    rintro l a wr ⟨s, ms, v, ⟨hP, hown, hB, hsz, hdf, t0, t1, t4, q, rfl, t5⟩, hcase⟩
    obtain ⟨M, hμ⟩ : ∃ M, scμ n l a wr = M := ⟨_, rfl⟩
    rw [hμ]
    have hsn : s ≤ n := by have := hP.1; omega
    rcases hcase with rfl | ⟨rfl, hfr⟩ | ⟨rfl, k, t, p, r, rfl, ht, hfr, t6, t8⟩ | ⟨rfl, k, m, t, p, o, r, lo, hi', rfl, ht, rfl, hM, t6, t7, t8, t9, t10⟩
    · obtain ⟨v6, t6⟩ : ∃ x, at_ a 6 = x := ⟨_, rfl⟩
      obtain ⟨v7, t7⟩ : ∃ x, at_ a 7 = x := ⟨_, rfl⟩
      obtain ⟨v8, t8⟩ : ∃ x, at_ a 8 = x := ⟨_, rfl⟩
      obtain ⟨v9, t9⟩ : ∃ x, at_ a 9 = x := ⟨_, rfl⟩
      obtain ⟨v10, t10⟩ : ∃ x, at_ a 10 = x := ⟨_, rfl⟩
      obtain ⟨u, rfl⟩ := frameLit a hsz hdf _ _ _ _ _ _ _ _ _ t0 t1 t4 t5 t6 t7 t8 t9 t10
      clear hsz hdf t0 t1 t4 t5 t6 t7 t8 t9 t10
      simp [scμ, intOf, at_] at hμ
      have HM := hid hμ
      clear hμ
      refine ⟨_, rfl, ?_⟩
      by_cases h1 : s = n
      · have hno : frst (bs.drop s) = none := by rw [List.drop_of_length_le (by omega)]; rfl
        obtain ⟨d1, d2⟩ := hP.done hno
        have HD := hid d1
        have HE := hid d2
        have ht : ((s : Int) == (n : Int)) = true := beq_iff_eq.2 (by omega)
        clear d1 d2 hno hc hbd h1
        go_wp2
        simp only [jumpAll_ret]
        go_ret2
        exact ⟨v, by rw [← HE.out]; rfl, by rw [← HD.out]; exact hown, hB⟩
      have hlt : s < n := by omega
      have ht : ((s : Int) == (n : Int)) = false := beq_eq_false_iff_ne.2 (by omega)
      obtain ⟨c, hcd⟩ : ∃ c, c = bs.getD s 0 := ⟨_, rfl⟩
      obtain ⟨h0, h9⟩ := hbd s hlt
      have hcx : wr.cell? ⟨bk, off + s, none⟩ = some (.int .u8 c) := by rw [hcd]; exact (hB.cell (p := ⟨bk, off + s, none⟩) hbk).trans (hc s hlt)
      rw [← hcd] at h0 h9
      have HC := hid hcd
      clear hcd
      by_cases hm : ldMore c < 0
      · have hfr : frst (bs.drop s) = some (1, 65533, true) := frst_wrong bs s (by omega) (by rw [← HC.out]; exact hm)
        have HF := hid hfr
        clear hfr hc hbd
        go_wp2_with (go_at_call 36; refine (lead_any _ _ h0 h9).mono ?_; rintro e w' ⟨rfl, rfl⟩)
        go_step3
        refine ⟨⟨s, ms, v, ⟨hP, hown, hB, rfl, rfl, rfl, rfl, rfl, _, rfl, rfl⟩, Or.inr (Or.inl ⟨rfl, HF.out⟩)⟩, ?_⟩
        have := HM.out; simp [scμ, intOf, at_]; omega
      have hM := Mid.start bs s (by omega) (by rw [← HC.out]; exact h0) (by rw [← HC.out]; exact h9) (by rw [← HC.out]; exact hm)
      rw [← HC.out] at hM
      have hm0 : 0 ≤ ldMore c := by omega
      have hm3 : ldMore c ≤ 3 := (ldMore_bd c).2
      by_cases hz : ldMore c = 0
      · have hz' : (ldMore c == 0) = true := beq_iff_eq.2 hz
        have hfr : frst (bs.drop s) = some (1, ldBits c, false) := by rw [hz] at hM; exact hM.whole
        have HF := hid hfr
        clear hfr hM hz hc hbd
        go_wp2_with (go_at_call 36; refine (lead_any _ _ h0 h9).mono ?_; rintro e w' ⟨rfl, rfl⟩)
        go_step3
        go_wp2
        go_step3
        refine ⟨⟨s, ms, v, ⟨hP, hown, hB, rfl, rfl, rfl, rfl, rfl, _, rfl, rfl⟩, Or.inr (Or.inr (Or.inl ⟨rfl, 1, (s + 1), _, _, (by omega), rfl, HF.out, rfl, rfl⟩))⟩, ?_⟩
        have := HM.out; simp [scμ, intOf, at_]; omega
      have hz' : (ldMore c == 0) = false := beq_eq_false_iff_ne.2 hz
      obtain ⟨m, hmm⟩ : ∃ m : Nat, ldMore c = (m : Int) + 1 := ⟨(ldMore c - 1).toNat, by omega⟩
      rw [show (ldMore c).toNat = m + 1 by omega] at hM
      by_cases h2 : s + 1 = n
      · have hno := hM.held (by omega)
        obtain ⟨d1, d2⟩ := hP.done hno
        have HD := hid d1
        have HE := hid d2
        clear d1 d2 hno hM hz hc hbd hmm
        have ht2 : ((s : Int) + 1 == (n : Int)) = true := beq_iff_eq.2 (by omega)
        go_wp2_with (go_at_call 36; refine (lead_any _ _ h0 h9).mono ?_; rintro e w' ⟨rfl, rfl⟩)
        go_step3
        go_wp2
        simp only [jumpAll_ret]
        go_ret2
        exact ⟨v, by rw [← HE.out]; rfl, by rw [← HD.out]; exact hown, hB⟩
      have hlt2 : s + 1 < n := by omega
      have ht2 : ((s : Int) + 1 == (n : Int)) = false := beq_eq_false_iff_ne.2 (by omega)
      obtain ⟨d, hdd⟩ : ∃ d, d = bs.getD (s + 1) 0 := ⟨_, rfl⟩
      obtain ⟨g0, g9⟩ := hbd (s + 1) hlt2
      have hdx : wr.cell? ⟨bk, off + (s + 1), none⟩ = some (.int .u8 d) := by rw [hdd]; exact (hB.cell (p := ⟨bk, off + (s + 1), none⟩) hbk).trans (hc (s + 1) hlt2)
      rw [← hdd] at g0 g9
      have HMM := hid hmm
      clear hc hbd hz hmm
      by_cases h3 : d < ldLow c
      · have HF := hid (hM.wrong (by omega) (Or.inl (by rw [← hdd]; exact h3)))
        clear hM hdd
        go_wp2_with (go_at_call 36; refine (lead_any _ _ h0 h9).mono ?_; rintro e w' ⟨rfl, rfl⟩)
        go_step3
        go_wp2
        go_step3
        refine ⟨⟨s, ms, v, ⟨hP, hown, hB, rfl, rfl, rfl, rfl, rfl, _, rfl, rfl⟩, Or.inr (Or.inl ⟨rfl, HF.out⟩)⟩, ?_⟩
        have := HM.out; simp [scμ, intOf, at_]; omega
      by_cases h4 : ldHigh c < d
      · have HF := hid (hM.wrong (by omega) (Or.inr (by rw [← hdd]; exact h4)))
        clear hM hdd
        go_wp2_with (go_at_call 36; refine (lead_any _ _ h0 h9).mono ?_; rintro e w' ⟨rfl, rfl⟩)
        go_step3
        go_wp2
        go_step3
        refine ⟨⟨s, ms, v, ⟨hP, hown, hB, rfl, rfl, rfl, rfl, rfl, _, rfl, rfl⟩, Or.inr (Or.inl ⟨rfl, HF.out⟩)⟩, ?_⟩
        have := HM.out; simp [scμ, intOf, at_]; omega
      have hsm := hM.small
      have hr0 := hM.r0
      have hM2 := hM.on (by omega) (by rw [← hdd]; exact h3) (by rw [← hdd]; exact h4)
      rw [← hdd] at hM2
      have HM2 := hid hM2
      clear hM hM2 hdd
      go_wp2_with (go_at_call 36; refine (lead_any _ _ h0 h9).mono ?_; rintro e w' ⟨rfl, rfl⟩)
      go_step3
      go_wp2
      go_step3
      refine ⟨⟨s, ms, v, ⟨hP, hown, hB, rfl, rfl, rfl, rfl, rfl, _, rfl, rfl⟩, Or.inr (Or.inr (Or.inr ⟨rfl, 2, m, (s + 2), _, _, _, _, _, (by omega), rfl, (by have := HMM.out; omega), HM2.out, rfl, rfl, rfl, rfl, rfl⟩))⟩, ?_⟩
      have := HM.out; have := HMM.out; simp [scμ, intOf, at_]; omega

    · obtain ⟨v6, t6⟩ : ∃ x, at_ a 6 = x := ⟨_, rfl⟩
      obtain ⟨v7, t7⟩ : ∃ x, at_ a 7 = x := ⟨_, rfl⟩
      obtain ⟨v8, t8⟩ : ∃ x, at_ a 8 = x := ⟨_, rfl⟩
      obtain ⟨v9, t9⟩ : ∃ x, at_ a 9 = x := ⟨_, rfl⟩
      obtain ⟨v10, t10⟩ : ∃ x, at_ a 10 = x := ⟨_, rfl⟩
      obtain ⟨u, rfl⟩ := frameLit a hsz hdf _ _ _ _ _ _ _ _ _ t0 t1 t4 t5 t6 t7 t8 t9 t10
      clear hsz hdf t0 t1 t4 t5 t6 t7 t8 t9 t10
      simp [scμ, intOf, at_] at hμ
      have HM := hid hμ
      clear hμ
      refine ⟨_, rfl, ?_⟩
      have hb := frst_bd _ _ _ _ hfr
      simp only [List.length_drop] at hb
      have hlm := hP.2.2.2
      have HF := hid hfr
      clear hfr hc hbd
      go_wp2_with (first | (go_at_call 30; refine (fault_any _ _).mono ?_; rintro e w' ⟨rfl, rfl⟩) | (at_builtin; refine wpList_append_own _ rfl _ _ 38 rfl w.heap.size 50 i0 (.agg #[.int .i64 0, .int .i64 0, .int .i32 0, .bool false]) 4 24 Tryd.underlying38 hi hz0 hz1 hz2 rfl (by decide) _ _ _ rfl ((hown.alloc _).alloc _) ⟨wr.heap.size + 1, 0, none⟩ 1 1 (mkc ⟨base + s, 1, 65533, true⟩) rfl rfl ?c1 ?c2 ?c3 ?c4 ?c5 ?_))
      case c1 => exact news_two wr _ #[.int .i64 (base + s), .int .i64 1, .int .i32 65533, .bool true] 50
      case c2 => exact mkc_one _
      case c3 => unfold maxLen; omega
      case c4 => omega
      case c5 => have := hB.size; simp; omega
      intro v' w1 hown' hgrow _
      have hP1 := hP.step HF.out
      have hB1 : Below w.heap.size w w1 := ((hB.alloc hB.size _).alloc (by have := hB.size; simp; omega) _).grown hgrow (by have := hB.size; simp; omega) (fun k hk => (hown.lt k hk).1)
      have hown1 : w1.ownsRow w.heap.size 50 4 v' (ms ++ [Mk.mk (base + s) (1 : Nat) 65533 true]).length (mkcs (ms ++ [Mk.mk (base + s) (1 : Nat) 65533 true])) := by rw [mkcs_snoc, List.length_append]; exact hown'
      clear hown' hgrow hown hB hP
      go_wp2
      go_step3
      refine ⟨⟨s + 1, _, v', ⟨hP1, hown1, hB1, rfl, rfl, rfl, rfl, rfl, _, (by omega), rfl⟩, Or.inl rfl⟩, ?_⟩
      have := HM.out; simp [scμ, intOf, at_]; omega

    · obtain ⟨v7, t7⟩ : ∃ x, at_ a 7 = x := ⟨_, rfl⟩
      obtain ⟨v9, t9⟩ : ∃ x, at_ a 9 = x := ⟨_, rfl⟩
      obtain ⟨v10, t10⟩ : ∃ x, at_ a 10 = x := ⟨_, rfl⟩
      obtain ⟨u, rfl⟩ := frameLit a hsz hdf _ _ _ _ _ _ _ _ _ t0 t1 t4 t5 t6 t7 t8 t9 t10
      clear hsz hdf t0 t1 t4 t5 t6 t7 t8 t9 t10
      simp [scμ, intOf, at_] at hμ
      have HM := hid hμ
      clear hμ
      refine ⟨_, rfl, ?_⟩
      have hb := frst_bd _ _ _ _ hfr
      simp only [List.length_drop] at hb
      have hlm := hP.2.2.2
      have HF := hid hfr
      have HT := hid ht
      have htn : t ≤ n := by omega
      have hts : s ≤ t := by omega
      clear hfr hc hbd ht
      go_wp2_with (at_builtin; refine wpList_append_own _ rfl _ _ 38 rfl w.heap.size 50 i0 (.agg #[.int .i64 0, .int .i64 0, .int .i32 0, .bool false]) 4 24 Tryd.underlying38 hi hz0 hz1 hz2 rfl (by decide) _ _ _ rfl (hown.alloc _) ⟨wr.heap.size, 0, none⟩ 1 1 (mkc ⟨base + s, t - s, r, false⟩) rfl rfl ?d1 ?d2 ?d3 ?d4 ?d5 ?_)
      case d1 => exact news_one wr #[.int .i64 (base + s), .int .i64 (t - s), .int .i32 r, .bool false] 50
      case d2 => exact mkc_one _
      case d3 => unfold maxLen; omega
      case d4 => omega
      case d5 => have := hB.size; simp; omega
      intro v' w1 hown' hgrow _
      have hP1 := hP.step HF.out
      have hk : (t : Int) - s = k := by have := HT.out; omega
      have hB1 : Below w.heap.size w w1 := (hB.alloc hB.size _).grown hgrow (by have := hB.size; simp; omega) (fun k hk => (hown.lt k hk).1)
      have hown1 : w1.ownsRow w.heap.size 50 4 v' (ms ++ [Mk.mk (base + s) k r false]).length (mkcs (ms ++ [Mk.mk (base + s) k r false])) := by rw [mkcs_snoc, List.length_append, ← hk]; exact hown'
      clear hown' hgrow hown hB hP hk
      go_wp2
      go_step3
      refine ⟨⟨s + k, _, v', ⟨hP1, hown1, hB1, rfl, rfl, rfl, rfl, rfl, _, (by have := HT.out; omega), rfl⟩, Or.inl rfl⟩, ?_⟩
      have := HT.out
      have := HM.out; simp [scμ, intOf, at_]; omega

    · obtain ⟨u, rfl⟩ := frameLit a hsz hdf _ _ _ _ _ _ _ _ _ t0 t1 t4 t5 t6 t7 t8 t9 t10
      clear hsz hdf t0 t1 t4 t5 t6 t7 t8 t9 t10
      simp [scμ, intOf, at_] at hμ
      have HM := hid hμ
      clear hμ
      refine ⟨_, rfl, ?_⟩
      have htn : t ≤ n := by have := hM.le; omega
      have HT := hid ht
      cases m with
      | zero =>
        have HF := hid hM.whole
        clear hM hc hbd ht
        go_wp2
        go_step3
        refine ⟨⟨s, ms, v, ⟨hP, hown, hB, rfl, rfl, rfl, rfl, rfl, _, rfl, rfl⟩, Or.inr (Or.inr (Or.inl ⟨rfl, k, t, _, _, rfl, HT.out, HF.out, rfl, rfl⟩))⟩, ?_⟩
        have := HM.out; simp [scμ, intOf, at_]; omega
      | succ m =>
      by_cases h2 : t = n
      · have hno := hM.held (by omega)
        obtain ⟨d1, d2⟩ := hP.done hno
        have HD := hid d1
        have HE := hid d2
        have ht2 : ((t : Int) == (n : Int)) = true := beq_iff_eq.2 (by omega)
        clear d1 d2 hno hM hc hbd h2 ht
        go_wp2
        simp only [jumpAll_ret]
        go_ret2
        exact ⟨v, by rw [← HE.out]; rfl, by rw [← HD.out]; exact hown, hB⟩
      have hlt2 : t < n := by omega
      have ht2 : ((t : Int) == (n : Int)) = false := beq_eq_false_iff_ne.2 (by omega)
      obtain ⟨d, hdd⟩ : ∃ d, d = bs.getD (s + k) 0 := ⟨_, rfl⟩
      obtain ⟨g0, g9⟩ := hbd t hlt2
      have hdx : wr.cell? ⟨bk, off + t, none⟩ = some (.int .u8 d) := by rw [hdd, ← ht]; exact (hB.cell (p := ⟨bk, off + t, none⟩) hbk).trans (hc t hlt2)
      rw [ht, ← hdd] at g0 g9
      clear hc hbd
      by_cases h3 : d < lo
      · have HF := hid (hM.wrong (by omega) (Or.inl (by rw [← hdd]; exact h3)))
        clear hM hdd ht
        go_wp2
        go_step3
        refine ⟨⟨s, ms, v, ⟨hP, hown, hB, rfl, rfl, rfl, rfl, rfl, _, rfl, rfl⟩, Or.inr (Or.inl ⟨rfl, HF.out⟩)⟩, ?_⟩
        have := HM.out; simp [scμ, intOf, at_]; omega
      by_cases h4 : hi' < d
      · have HF := hid (hM.wrong (by omega) (Or.inr (by rw [← hdd]; exact h4)))
        clear hM hdd ht
        go_wp2
        go_step3
        refine ⟨⟨s, ms, v, ⟨hP, hown, hB, rfl, rfl, rfl, rfl, rfl, _, rfl, rfl⟩, Or.inr (Or.inl ⟨rfl, HF.out⟩)⟩, ?_⟩
        have := HM.out; simp [scμ, intOf, at_]; omega
      have hsm := hM.small
      have hr0 := hM.r0
      have hm3 : m ≤ 3 := by have := hM.sum; omega
      have hM2 := hM.on (by omega) (by rw [← hdd]; exact h3) (by rw [← hdd]; exact h4)
      rw [← hdd] at hM2
      have HM2 := hid hM2
      clear hM hM2 hdd ht
      go_wp2
      go_step3
      refine ⟨⟨s, ms, v, ⟨hP, hown, hB, rfl, rfl, rfl, rfl, rfl, _, rfl, rfl⟩, Or.inr (Or.inr (Or.inr ⟨rfl, (k + 1), m, (t + 1), _, _, _, _, _, (by omega), (by have := HT.out; omega), (by omega), HM2.out, rfl, rfl, rfl, rfl, rfl⟩))⟩, ?_⟩
      have := HM.out; simp [scμ, intOf, at_]; omega

end Go.Proofs.YtflehkdijfhmgabDoor

