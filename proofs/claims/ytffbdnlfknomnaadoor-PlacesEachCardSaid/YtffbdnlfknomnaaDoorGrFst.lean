/- The contracts of sure and first (package grapheme) at any text. -/
import Derived.Test.YtffbdnlfknomnaaDoorGrFun
import Derived.Test.YtffbdnlfknomnaaDoorJumps
namespace Go.Proofs.YtffbdnlfknomnaaDoor.Wt
open Go.RowKit

theorem cl_ite {c : Prop} [Decidable c] {a b : Int} (ha : Cl a) (hb : Cl b) : Cl (if c then a else b) := by
  split
  · exact ha
  · exact hb
theorem gp_bd (r : Int) : Cl (gpcls r) := by
  have h1 : Cl (gplatin r) := by
    unfold gplatin
    repeat (refine cl_ite ⟨by decide, by decide⟩ ?_)
    exact ⟨by decide, by decide⟩
  have h2 : Cl (gpmarks r) := by
    unfold gpmarks
    repeat (refine cl_ite ⟨by decide, by decide⟩ ?_)
    exact ⟨by decide, by decide⟩
  have h3 : Cl (gpjamo r) := by
    unfold gpjamo
    repeat (refine cl_ite ⟨by decide, by decide⟩ ?_)
    exact ⟨by decide, by decide⟩
  have h4 : Cl (gppunct r) := by
    unfold gppunct
    repeat (refine cl_ite ⟨by decide, by decide⟩ ?_)
    exact ⟨by decide, by decide⟩
  have h5 : Cl (gpsigns r) := by
    unfold gpsigns
    repeat (refine cl_ite ⟨by decide, by decide⟩ ?_)
    exact ⟨by decide, by decide⟩
  have h6 : Cl (gphigh r) := by
    unfold gphigh
    repeat (refine cl_ite ⟨by decide, by decide⟩ ?_)
    exact ⟨by decide, by decide⟩
  unfold gpcls
  split
  · exact h1
  split
  · exact h2
  split
  · exact h3
  split
  · exact h4
  split
  · exact h5
  split
  · exact ⟨by decide, by decide⟩
  · exact h6
def gc (x : Nat × Nat) : Int := gpcls (x.1 : Int)
theorem gc_cl : Clf gc := fun _ => gp_bd _
/-- The classes of a text's runes. -/
def gcs (l : List UInt8) : List Int := (rl l).map gc
theorem gcs_len (l : List UInt8) : (gcs l).length = (rl l).length := List.length_map ..
theorem gcs_cl (l : List UInt8) : ∀ c ∈ gcs l, Cl c := fun c hc => by
  obtain ⟨x, _, rfl⟩ := List.mem_map.1 hc
  exact gc_cl x
theorem hd_cl (L : List Int) (h : ∀ c ∈ L, Cl c) : Cl (L.headD 3) := by
  cases L with
  | nil => exact ⟨by decide, by decide⟩
  | cons c L => exact h c (List.mem_cons_self ..)
theorem dec_pos (l : List UInt8) (k : Nat) (h : k < (rl l).length) : dec (l.drop (pos l k)) = (rl l)[k] := by
  have h1 := rl_drop l k (Nat.le_of_lt h)
  have hne : l.drop (pos l k) ≠ [] := drop_ne l _ (pos_end l k h)
  rw [rl_cons _ hne, List.drop_eq_getElem_cons h] at h1
  exact (List.cons.inj h1).1
theorem gstep_pos (l : List UInt8) (k : Nat) (h : k ≤ (rl l).length) : gstep l (pos l k) = (((gcs l).drop k).headD 3, pos l (k + 1)) := by
  unfold gstep
  rcases Nat.lt_or_ge k (rl l).length with hk | hk
  · rw [if_neg (by have := pos_end l k hk; omega), pos_step l k hk]
    have hk2 : k < (gcs l).length := by rw [gcs_len]; exact hk
    rw [List.drop_eq_getElem_cons hk2]
    unfold gpfirst
    rw [dec_pos l k hk]
    simp [gcs, gc]
  · have e : k = (rl l).length := by omega
    rw [if_pos (pos_all l k hk), List.drop_of_length_le (by rw [gcs_len]; exact hk), pos_all l k hk, pos_all l (k + 1) (by omega)]; rfl
theorem gbt_3 (a : Int) : gbt a 3 = 0 := by
  unfold gbt
  rw [if_neg (fun h => absurd h.2 (by decide)), if_pos (.inr (by decide))]
theorem pl_cons (a b : Int) (D : List Int) : pl a (b :: D) = if gbt a b = 1 then gr b D + 1 else 0 := rfl
theorem gr_cons (q b : Int) (D : List Int) : gr q (b :: D) = (match nx q b with | none => 0 | some q' => gr q' D + 1) := rfl
theorem pl_gr (q : Int) (D : List Int) (h : Cl q) (h1 : q ≠ 12) (h2 : q ≠ 13) : gr q D = pl q D := by
  cases D with
  | nil => rfl
  | cons b D =>
    have h3 : q ≠ 14 := by have := h.2; omega
    have h4 : q ≠ 15 := by have := h.2; omega
    rw [gr_cons, pl_cons]
    unfold nx
    rw [if_neg h1, if_neg h2, if_neg h3, if_neg h4]
    by_cases hg : gbt q b = 1
    · rw [if_pos hg, if_pos hg]
    · rw [if_neg hg, if_neg hg]
theorem gr_15 (D : List Int) : gr 15 D = pl 13 D := by
  cases D with
  | nil => rfl
  | cons b D =>
    rw [gr_cons, pl_cons]
    unfold nx
    rw [if_neg (by decide), if_neg (by decide), if_neg (by decide), if_pos rfl]
    by_cases hg : gbt 13 b = 1
    · rw [if_pos hg, if_pos hg]
    · rw [if_neg hg, if_neg hg]
theorem gr_12 (D : List Int) (h1 : D.headD 3 ≠ 4) (h2 : D.headD 3 ≠ 5) : gr 12 D = pl 12 D := by
  cases D with
  | nil => rfl
  | cons b D =>
    simp only [List.headD_cons] at h1 h2
    rw [gr_cons, pl_cons]
    unfold nx
    rw [if_pos rfl, if_neg h1, if_neg h2]
    by_cases hg : gbt 12 b = 1
    · rw [if_pos hg, if_pos hg]
    · rw [if_neg hg, if_neg hg]
theorem gr_14 (D : List Int) (h1 : D.headD 3 ≠ 12) : gr 14 D = pl 5 D := by
  cases D with
  | nil => rfl
  | cons b D =>
    simp only [List.headD_cons] at h1
    rw [gr_cons, pl_cons]
    unfold nx
    rw [if_neg (by decide), if_neg (by decide), if_pos rfl, if_neg h1]
    by_cases hg : gbt 5 b = 1
    · rw [if_pos hg, if_pos hg]
    · rw [if_neg hg, if_neg hg]
theorem gr_13 (D : List Int) (h1 : D.headD 3 ≠ 13) : gr 13 D = pl 13 D := by
  cases D with
  | nil => rfl
  | cons b D =>
    simp only [List.headD_cons] at h1
    rw [gr_cons, pl_cons]
    unfold nx
    rw [if_neg (by decide), if_pos rfl, if_neg h1]
    by_cases hg : gbt 13 b = 1
    · rw [if_pos hg, if_pos hg]
    · rw [if_neg hg, if_neg hg]
theorem gr_124 (D : List Int) : gr 12 (4 :: D) = gr 12 D + 1 := rfl
theorem gr_125 (D : List Int) : gr 12 (5 :: D) = gr 14 D + 1 := rfl
theorem gr_142 (D : List Int) : gr 14 (12 :: D) = gr 12 D + 1 := rfl
theorem gr_133 (D : List Int) : gr 13 (13 :: D) = gr 15 D + 1 := rfl
theorem pl_no (a : Int) (D : List Int) (h : gbt a (D.headD 3) ≠ 1) : pl a D = 0 := by
  cases D with
  | nil => rfl
  | cons b D => unfold pl; exact if_neg h
theorem pl_yes (a : Int) (D : List Int) (h : gbt a (D.headD 3) = 1) : D ≠ [] ∧ pl a D = gr (D.headD 3) D.tail + 1 := by
  cases D with
  | nil => exact absurd (gbt_3 a) (by rw [show gbt a 3 = 1 from h]; decide)
  | cons b D => exact ⟨by simp, if_pos h⟩
theorem hd_ne (D : List Int) (b : Int) (h : D.headD 3 = b) (hb : b ≠ 3) : D = b :: D.tail := by
  cases D with
  | nil => exact absurd h.symm hb
  | cons c D => rw [← h]; rfl
theorem ofFn_all {k : Nat} (t : Array Value) (h : t.size = k) : t = Array.ofFn (fun i : Fin k => t.getD i undef) := by
  apply Array.ext
  · simp [h]
  · intro i h1 h2
    simp [Array.getD, h1]
theorem ofFnLit (f : Nat → Value) : Array.ofFn (fun i : Fin 64 => f i) = #[f 0, f 1, f 2, f 3, f 4, f 5, f 6, f 7, f 8, f 9, f 10, f 11, f 12, f 13, f 14, f 15, f 16, f 17, f 18, f 19, f 20, f 21, f 22, f 23, f 24, f 25, f 26, f 27, f 28, f 29, f 30, f 31, f 32, f 33, f 34, f 35, f 36, f 37, f 38, f 39, f 40, f 41, f 42, f 43, f 44, f 45, f 46, f 47, f 48, f 49, f 50, f 51, f 52, f 53, f 54, f 55, f 56, f 57, f 58, f 59, f 60, f 61, f 62, f 63] := by kernel_rfl
def at_ (a : Act) (i : Nat) : Value := a.tmps.getD i undef
theorem frameLit (a : Act) (hs : a.tmps.size = 64) (hd : a.defers = []) (v0 v3 v5 : Value) (h0 : at_ a 0 = v0) (h3 : at_ a 3 = v3) (h5 : at_ a 5 = v5) :
    ∃ u : Nat → Value, a = { tmps := #[v0, u 1, u 2, v3, u 4, v5, u 6, u 7, u 8, u 9, u 10, u 11, u 12, u 13, u 14, u 15, u 16, u 17, u 18, u 19, u 20, u 21, u 22, u 23, u 24, u 25, u 26, u 27, u 28, u 29, u 30, u 31, u 32, u 33, u 34, u 35, u 36, u 37, u 38, u 39, u 40, u 41, u 42, u 43, u 44, u 45, u 46, u 47, u 48, u 49, u 50, u 51, u 52, u 53, u 54, u 55, u 56, u 57, u 58, u 59, u 60, u 61, u 62, u 63], defers := [] } := by
  obtain ⟨t, d⟩ := a
  subst hd
  refine ⟨fun i => t.getD i undef, ?_⟩
  simp only [at_] at h0 h3 h5
  subst h0 h3 h5
  exact congrArg (fun t => (Act.mk t [] : Act)) ((ofFn_all t hs).trans (ofFnLit fun i => t.getD i undef))
/-- What holds at a jump to each label. -/
def fsJ (l : List UInt8) (w : World) (b : Nat) (a : Act) (wr : World) : Prop :=
  ∃ (k p : Nat) (av : Int), k ≤ (rl l).length ∧ p = pos l k ∧ Below w.heap.size w wr ∧ a.tmps.size = 64 ∧ a.defers = [] ∧ at_ a 0 = .string ⟨l.toArray⟩ ∧ at_ a 3 = .int .i64 p ∧ at_ a 5 = .int .i64 av ∧
    (b = 2 ∧ Cl av ∧ fstC (gcs l) = k + gr av ((gcs l).drop k) ∨ b = 3 ∧ fstC (gcs l) = k + pl av ((gcs l).drop k) ∨ b = 0 ∧ av = 12 ∧ fstC (gcs l) = k + gr 12 ((gcs l).drop k)
      ∨ b = 4 ∧ av = 5 ∧ fstC (gcs l) = k + gr 14 ((gcs l).drop k) ∨ b = 1 ∧ av = 13 ∧ fstC (gcs l) = k + gr 13 ((gcs l).drop k))
def fsμ (n : Nat) (b : Nat) (a : Act) (_ : World) : Nat := 4 * (n - (intOf (at_ a 3)).toNat) + (if b = 2 then 3 else if b = 3 then 1 else 2)
/-- The place behind the first letter. -/
def gfs (l : List UInt8) : Nat := pos l (fstC (gcs l))
theorem fs_tail (l : List UInt8) (k : Nat) (b : Int) (h : ((gcs l).drop k).headD 3 = b) (hb : b ≠ 3) : k < (rl l).length ∧ (gcs l).drop k = b :: (gcs l).drop (k + 1) := by
  have h1 := hd_ne _ b h hb
  rw [List.tail_drop] at h1
  refine ⟨?_, h1⟩
  rcases Nat.lt_or_ge k (rl l).length with h2 | h2
  · exact h2
  · rw [List.drop_of_length_le (by rw [gcs_len]; exact h2)] at h1
    cases h1
set_option maxHeartbeats 8000000 in
set_option maxRecDepth 100000 in
theorem gfirst_any (l : List UInt8) (w : World) (ht : TbW w) (hl : l.length ≤ 1000000000) (hne : l ≠ []) :
    Calls Tryd.prog 84 #[.string ⟨l.toArray⟩] w fun e w' => e = .returned (.int .i64 (gfs l)) ∧ Below w.heap.size w w' := by
  have HT := hid ht
  have HNE := hid (show 0 < (rl l).length by rw [rl_cons l hne]; simp)
  clear ht hne
  go_enter Tryd.func84, Tryd.ntmps84
  go_wp2
  refine wp_scope_many (fsJ l w) (fsμ l.length) ?pass ?first
  case first =>
    intro hp
    refine first3 hp rfl rfl rfl ?_
    clear hp
    go_wp2_with fail
    refine (gstep_any l 0 w HT.out hl (Nat.zero_le _)).mono ?_
    rintro e w1 ⟨rfl, be⟩
    have HB := hid be
    have HS := hid (gstep_pos l 0 (Nat.zero_le _))
    rw [pos_0] at HS
    obtain ⟨c0, hc0⟩ : ∃ c, c = (gcs l).headD 3 := ⟨_, rfl⟩
    rw [HS.out]
    simp only [List.drop_zero]
    rw [← hc0]
    have HL0 := hid (show gcs l = (gcs l).headD 3 :: (gcs l).drop 1 by
      cases hg : gcs l with
      | nil => have h1 := gcs_len l; rw [hg] at h1; have h2 := HNE.out; simp only [List.length_nil] at h1; omega
      | cons c L => rfl)
    have HCL := hid (hd_cl _ (gcs_cl l))
    rw [← hc0] at HL0 HCL
    clear be hc0
    go_wp2
    refine ⟨1, pos l 1, c0, HNE.out, rfl, HB.out, rfl, rfl, rfl, rfl, rfl, .inl ⟨rfl, HCL.out, ?_⟩⟩
    conv => lhs; rw [HL0.out]
    exact Nat.add_comm _ _
  case pass =>
    rintro lb a wr ⟨k, p, av, hk, hp, hB, hsz, hdf, t0, t3, t5, hcase⟩
    obtain ⟨M, hμ⟩ : ∃ M, fsμ l.length lb a wr = M := ⟨_, rfl⟩
    rw [hμ]
    obtain ⟨u, rfl⟩ := frameLit a hsz hdf _ _ _ t0 t3 t5
    clear hsz hdf t0 t3 t5
    simp [fsμ, intOf, at_] at hμ
    have HM := hid hμ
    have HB := hid hB
    have HP := hid hp
    have hpl : p ≤ l.length := by rw [hp]; exact pos_le l k hk
    have HS := hid (show gstep l p = (((gcs l).drop k).headD 3, pos l (k + 1)) by rw [hp]; exact gstep_pos l k hk)
    obtain ⟨b, hb⟩ : ∃ b, b = ((gcs l).drop k).headD 3 := ⟨_, rfl⟩
    obtain ⟨q, hq⟩ : ∃ q, q = pos l (k + 1) := ⟨_, rfl⟩
    rw [← hb, ← hq] at HS
    have HCB := hid (show Cl b by rw [hb]; exact hd_cl _ (fun c hc => gcs_cl l c (List.mem_of_mem_drop hc)))
    have HD := hid hb
    have HK := hid hk
    have HQ0 := hid hq
    clear hμ hB hp hb hk hq
    rcases hcase with ⟨rfl, hcl, hT⟩ | ⟨rfl, hT⟩ | ⟨rfl, rfl, hT⟩ | ⟨rfl, rfl, hT⟩ | ⟨rfl, rfl, hT⟩
    all_goals refine ⟨_, rfl, ?_⟩
    · -- begin
      by_cases h12 : av = 12
      · subst h12
        have HTT := hid hT
        clear hT
        go_wp2
        go_step3
        refine ⟨⟨k, p, 12, HK.out, HP.out, HB.out, rfl, rfl, rfl, rfl, rfl, .inr (.inr (.inl ⟨rfl, rfl, HTT.out⟩))⟩, ?_⟩
        have h1 := HM.out
        simp at h1
        simp [fsμ, intOf, at_]
        omega
      by_cases h13 : av = 13
      · subst h13
        have HTT := hid hT
        clear hT
        go_wp2
        go_step3
        refine ⟨⟨k, p, 13, HK.out, HP.out, HB.out, rfl, rfl, rfl, rfl, rfl, .inr (.inr (.inr (.inr ⟨rfl, rfl, HTT.out⟩)))⟩, ?_⟩
        have h1 := HM.out
        simp at h1
        simp [fsμ, intOf, at_]
        omega
      have b12 : (av == 12) = false := beq_eq_false_iff_ne.2 h12
      have b13 : (av == 13) = false := beq_eq_false_iff_ne.2 h13
      have HTT := hid (show fstC (gcs l) = k + pl av ((gcs l).drop k) by rw [← pl_gr av _ hcl h12 h13]; exact hT)
      clear hT h12 h13 hcl
      go_wp2_with fail
      refine wp_label ?_
      go_wp2_with fail
      refine (gstep_any l p wr (HT.out.below HB.out) hl hpl).mono ?_
      rintro e w1 ⟨rfl, be⟩
      have HB1 := hid (HB.out.trans (be.mono HB.out.size))
      rw [HS.out]
      simp only []
      clear be
      go_wp2_with fail
      refine (gbt_any av b w1).mono ?_
      rintro e w2 ⟨rfl, hw2⟩
      obtain rfl := hw2.symm
      clear hw2
      by_cases hg : gbt av b = 1
      · have hgb : ((gbt av b : Int) != 1) = false := by rw [hg]; rfl
        obtain ⟨y1, y2⟩ := pl_yes av _ (by rw [← HD.out]; exact hg)
        have hkl : k < (rl l).length := by
          rcases Nat.lt_or_ge k (rl l).length with h | h
          · exact h
          · exact absurd (List.drop_of_length_le (by rw [gcs_len]; exact h)) y1
        have HT1 := hid (show fstC (gcs l) = (k + 1) + gr b ((gcs l).drop (k + 1)) by rw [HTT.out, y2, ← HD.out, List.tail_drop]; omega)
        have HPL := hid (pos_lt l k hkl)
        have HPL2 := hid (pos_le l (k + 1) hkl)
        have HQ := hid (show q = pos l (k + 1) from HQ0.out)
        have HKL := hid hkl
        clear hg y1 y2 hkl
        go_wp2
        go_step3
        refine ⟨⟨k + 1, q, b, HKL.out, HQ.out, HB1.out, rfl, rfl, rfl, rfl, rfl, .inl ⟨rfl, HCB.out, HT1.out⟩⟩, ?_⟩
        have h1 := HM.out
        simp at h1
        have h2 := HPL.out
        have h3 := HPL2.out
        have h4 := HQ.out
        have h5 := HP.out
        simp [fsμ, intOf, at_]
        omega
      · have hgb : ((gbt av b : Int) != 1) = true := by simpa using hg
        have HF := hid (show fstC (gcs l) = k by rw [HTT.out, pl_no av _ (by rw [← HD.out]; exact hg)]; rfl)
        clear hg
        go_wp2
        simp only [jumpAll_ret]
        go_ret
        exact ⟨by unfold gfs; rw [HF.out, ← HP.out]; rfl, HB1.out⟩
    · -- plain
      have HTT := hid hT
      clear hT
      go_wp2_with fail
      refine (gstep_any l p wr (HT.out.below HB.out) hl hpl).mono ?_
      rintro e w1 ⟨rfl, be⟩
      have HB1 := hid (HB.out.trans (be.mono HB.out.size))
      rw [HS.out]
      simp only []
      clear be
      go_wp2_with fail
      refine (gbt_any av b w1).mono ?_
      rintro e w2 ⟨rfl, hw2⟩
      obtain rfl := hw2.symm
      clear hw2
      by_cases hg : gbt av b = 1
      · have hgb : ((gbt av b : Int) != 1) = false := by rw [hg]; rfl
        obtain ⟨y1, y2⟩ := pl_yes av _ (by rw [← HD.out]; exact hg)
        have hkl : k < (rl l).length := by
          rcases Nat.lt_or_ge k (rl l).length with h | h
          · exact h
          · exact absurd (List.drop_of_length_le (by rw [gcs_len]; exact h)) y1
        have HT1 := hid (show fstC (gcs l) = (k + 1) + gr b ((gcs l).drop (k + 1)) by rw [HTT.out, y2, ← HD.out, List.tail_drop]; omega)
        have HPL := hid (pos_lt l k hkl)
        have HPL2 := hid (pos_le l (k + 1) hkl)
        have HQ := hid (show q = pos l (k + 1) from HQ0.out)
        have HKL := hid hkl
        clear hg y1 y2 hkl
        go_wp2
        go_step3
        refine ⟨⟨k + 1, q, b, HKL.out, HQ.out, HB1.out, rfl, rfl, rfl, rfl, rfl, .inl ⟨rfl, HCB.out, HT1.out⟩⟩, ?_⟩
        have h1 := HM.out
        simp at h1
        have h2 := HPL.out
        have h3 := HPL2.out
        have h4 := HQ.out
        have h5 := HP.out
        simp [fsμ, intOf, at_]
        omega
      · have hgb : ((gbt av b : Int) != 1) = true := by simpa using hg
        have HF := hid (show fstC (gcs l) = k by rw [HTT.out, pl_no av _ (by rw [← HD.out]; exact hg)]; rfl)
        clear hg
        go_wp2
        simp only [jumpAll_ret]
        go_ret
        exact ⟨by unfold gfs; rw [HF.out, ← HP.out]; rfl, HB1.out⟩
    · -- picture
      have HTT := hid hT
      clear hT
      go_wp2_with fail
      refine (gstep_any l p wr (HT.out.below HB.out) hl hpl).mono ?_
      rintro e w1 ⟨rfl, be⟩
      have HB1 := hid (HB.out.trans (be.mono HB.out.size))
      rw [HS.out]
      simp only []
      clear be
      by_cases h4 : b = 4
      · subst h4
        obtain ⟨y1, y2⟩ := fs_tail l k 4 HD.out.symm (by decide)
        have HT1 := hid (show fstC (gcs l) = (k + 1) + gr 12 ((gcs l).drop (k + 1)) by rw [HTT.out, y2, gr_124]; omega)
        have HPL := hid (pos_lt l k y1)
        have HPL2 := hid (pos_le l (k + 1) y1)
        have HQ := hid (show q = pos l (k + 1) from HQ0.out)
        have HKL := hid y1
        clear y1 y2
        go_wp2
        go_step3
        refine ⟨⟨k + 1, q, 12, HKL.out, HQ.out, HB1.out, rfl, rfl, rfl, rfl, rfl, .inr (.inr (.inl ⟨rfl, rfl, HT1.out⟩))⟩, ?_⟩
        have h1 := HM.out
        simp at h1
        have h2 := HPL.out
        have h3 := HPL2.out
        have h4 := HQ.out
        have h5 := HP.out
        simp [fsμ, intOf, at_]
        omega
      by_cases h5 : b = 5
      · subst h5
        obtain ⟨y1, y2⟩ := fs_tail l k 5 HD.out.symm (by decide)
        have HT1 := hid (show fstC (gcs l) = (k + 1) + gr 14 ((gcs l).drop (k + 1)) by rw [HTT.out, y2, gr_125]; omega)
        have HPL := hid (pos_lt l k y1)
        have HPL2 := hid (pos_le l (k + 1) y1)
        have HQ := hid (show q = pos l (k + 1) from HQ0.out)
        have HKL := hid y1
        clear y1 y2
        go_wp2
        go_step3
        refine ⟨⟨k + 1, q, 5, HKL.out, HQ.out, HB1.out, rfl, rfl, rfl, rfl, rfl, .inr (.inr (.inr (.inl ⟨rfl, rfl, HT1.out⟩)))⟩, ?_⟩
        have h1 := HM.out
        simp at h1
        have h2 := HPL.out
        have h3 := HPL2.out
        have h4 := HQ.out
        have h5 := HP.out
        simp [fsμ, intOf, at_]
        omega
      have b4 : (b == 4) = false := beq_eq_false_iff_ne.2 h4
      have b5 : (b == 5) = false := beq_eq_false_iff_ne.2 h5
      have HT1 := hid (show fstC (gcs l) = k + pl 12 ((gcs l).drop k) by rw [← gr_12 _ (by rw [← HD.out]; exact h4) (by rw [← HD.out]; exact h5)]; exact HTT.out)
      clear h4 h5
      go_wp2
      go_step3
      refine ⟨⟨k, p, 12, HK.out, HP.out, HB1.out, rfl, rfl, rfl, rfl, rfl, .inr (.inl ⟨rfl, HT1.out⟩)⟩, ?_⟩
      have h1 := HM.out
      simp at h1
      simp [fsμ, intOf, at_]
      omega
    · -- joiner
      have HTT := hid hT
      clear hT
      go_wp2_with fail
      refine (gstep_any l p wr (HT.out.below HB.out) hl hpl).mono ?_
      rintro e w1 ⟨rfl, be⟩
      have HB1 := hid (HB.out.trans (be.mono HB.out.size))
      rw [HS.out]
      simp only []
      clear be
      by_cases h4 : b = 12
      · subst h4
        obtain ⟨y1, y2⟩ := fs_tail l k 12 HD.out.symm (by decide)
        have HT1 := hid (show fstC (gcs l) = (k + 1) + gr 12 ((gcs l).drop (k + 1)) by rw [HTT.out, y2, gr_142]; omega)
        have HPL := hid (pos_lt l k y1)
        have HPL2 := hid (pos_le l (k + 1) y1)
        have HQ := hid (show q = pos l (k + 1) from HQ0.out)
        have HKL := hid y1
        clear y1 y2
        go_wp2
        go_step3
        refine ⟨⟨k + 1, q, 12, HKL.out, HQ.out, HB1.out, rfl, rfl, rfl, rfl, rfl, .inr (.inr (.inl ⟨rfl, rfl, HT1.out⟩))⟩, ?_⟩
        have h1 := HM.out
        simp at h1
        have h2 := HPL.out
        have h3 := HPL2.out
        have h4 := HQ.out
        have h5 := HP.out
        simp [fsμ, intOf, at_]
        omega
      have b4 : (b == 12) = false := beq_eq_false_iff_ne.2 h4
      have HT1 := hid (show fstC (gcs l) = k + pl 5 ((gcs l).drop k) by rw [← gr_14 _ (by rw [← HD.out]; exact h4)]; exact HTT.out)
      clear h4
      go_wp2
      go_step3
      refine ⟨⟨k, p, 5, HK.out, HP.out, HB1.out, rfl, rfl, rfl, rfl, rfl, .inr (.inl ⟨rfl, HT1.out⟩)⟩, ?_⟩
      have h1 := HM.out
      simp at h1
      simp [fsμ, intOf, at_]
      omega
    · -- flag
      have HTT := hid hT
      clear hT
      go_wp2_with fail
      refine (gstep_any l p wr (HT.out.below HB.out) hl hpl).mono ?_
      rintro e w1 ⟨rfl, be⟩
      have HB1 := hid (HB.out.trans (be.mono HB.out.size))
      rw [HS.out]
      simp only []
      clear be
      by_cases h4 : b = 13
      · subst h4
        obtain ⟨y1, y2⟩ := fs_tail l k 13 HD.out.symm (by decide)
        have HT1 := hid (show fstC (gcs l) = (k + 1) + pl 13 ((gcs l).drop (k + 1)) by rw [HTT.out, y2, gr_133, gr_15]; omega)
        have HPL := hid (pos_lt l k y1)
        have HPL2 := hid (pos_le l (k + 1) y1)
        have HQ := hid (show q = pos l (k + 1) from HQ0.out)
        have HKL := hid y1
        clear y1 y2
        go_wp2
        go_step3
        refine ⟨⟨k + 1, q, 13, HKL.out, HQ.out, HB1.out, rfl, rfl, rfl, rfl, rfl, .inr (.inl ⟨rfl, HT1.out⟩)⟩, ?_⟩
        have h1 := HM.out
        simp at h1
        have h2 := HPL.out
        have h3 := HPL2.out
        have h4 := HQ.out
        have h5 := HP.out
        simp [fsμ, intOf, at_]
        omega
      have b4 : (b == 13) = false := beq_eq_false_iff_ne.2 h4
      have HT1 := hid (show fstC (gcs l) = k + pl 13 ((gcs l).drop k) by rw [← gr_13 _ (by rw [← HD.out]; exact h4)]; exact HTT.out)
      clear h4
      go_wp2
      go_step3
      refine ⟨⟨k, p, 13, HK.out, HP.out, HB1.out, rfl, rfl, rfl, rfl, rfl, .inr (.inl ⟨rfl, HT1.out⟩)⟩, ?_⟩
      have h1 := HM.out
      simp at h1
      simp [fsμ, intOf, at_]
      omega
end Go.Proofs.YtffbdnlfknomnaaDoor.Wt
