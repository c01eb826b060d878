/- GrFst, GrEach, GrLaw, GrBds, GrCnt, GrSur, GrBnd, GrBkM, GrChn: parts of the proof, joined. -/
import Derived.Test.YtdpohgoikbeplaaGreatDoorPPtMath
import Derived.Test.YtdpohgoikbeplaaGreatDoorPKit
import Derived.Test.YtdpohgoikbeplaaGreatDoorPJumps
namespace Go.Proofs.YtdpohgoikbeplaaGreatDoor.Wt
open Go.RowKit
theorem cl_ite {c : Prop} [Decidable c] {a b : Int} (ha : Cl a) (hb : Cl b) : Cl (if c then a else b) := by
 split
 ·exact ha
 ·exact hb
theorem gp_bd (r : Int) : Cl (gpcls r) := by
 have h1 : Cl (gplatin r) := by
  unfold gplatin
  repeat (refine cl_ite ⟨by decide, by decide⟩ ?_)
  exact ⟨by decide, by decide⟩
 have h2 : Cl (gpmarks r) := by
  unfold gpmarks
  repeat (refine cl_ite ⟨by decide, by decide⟩ ?_)
  exact ⟨by decide, by decide⟩
 have h3 : Cl (gpjamo r) := by
  unfold gpjamo
  repeat (refine cl_ite ⟨by decide, by decide⟩ ?_)
  exact ⟨by decide, by decide⟩
 have h4 : Cl (gppunct r) := by
  unfold gppunct
  repeat (refine cl_ite ⟨by decide, by decide⟩ ?_)
  exact ⟨by decide, by decide⟩
 have h5 : Cl (gpsigns r) := by
  unfold gpsigns
  repeat (refine cl_ite ⟨by decide, by decide⟩ ?_)
  exact ⟨by decide, by decide⟩
 have h6 : Cl (gphigh r) := by
  unfold gphigh
  repeat (refine cl_ite ⟨by decide, by decide⟩ ?_)
  exact ⟨by decide, by decide⟩
 unfold gpcls
 split
 ·exact h1
 split
 ·exact h2
 split
 ·exact h3
 split
 ·exact h4
 split
 ·exact h5
 split
 ·exact ⟨by decide, by decide⟩
 ·exact h6
def gc (x : Nat × Nat) : Int := gpcls (x.1 : Int)
theorem gc_cl : Clf gc := fun _ => gp_bd _
def gcs (l : List UInt8) : List Int := (rl l).map gc
theorem gcs_len (l : List UInt8) : (gcs l).length = (rl l).length := List.length_map ..
theorem gcs_cl (l : List UInt8) : ∀ c ∈ gcs l, Cl c := fun c hc => by
 obtain ⟨x, _, rfl⟩ := List.mem_map.1 hc
 exact gc_cl x
theorem hd_cl (L : List Int) (h : ∀ c ∈ L, Cl c) : Cl (L.headD 3) := by
 cases L with
 | nil => exact ⟨by decide, by decide⟩
 | cons c L => exact h c (List.mem_cons_self ..)
theorem dec_pos (l : List UInt8) (k : Nat) (h : k < (rl l).length) : dec (l.drop (pos l k)) = (rl l)[k] := by
 have h1 := rl_drop l k (Nat.le_of_lt h)
 have hne : l.drop (pos l k) ≠ [] := drop_ne l _ (pos_end l k h)
 rw [rl_cons _ hne, List.drop_eq_getElem_cons h] at h1
 exact (List.cons.inj h1).1
theorem gstep_pos (l : List UInt8) (k : Nat) (h : k <= (rl l).length) : gstep l (pos l k) = (((gcs l).drop k).headD 3, pos l (k + 1)) := by
 unfold gstep
 rcases Nat.lt_or_ge k (rl l).length with hk | hk
 ·rw [if_neg (by have := pos_end l k hk; omega), pos_step l k hk]
  have hk2 : k < (gcs l).length := by rw [gcs_len]; exact hk
  rw [List.drop_eq_getElem_cons hk2]
  unfold gpfirst
  rw [dec_pos l k hk]
  simp [gcs, gc]
 ·have e : k = (rl l).length := by omega
  rw [if_pos (pos_all l k hk), List.drop_of_length_le (by rw [gcs_len]; exact hk), pos_all l k hk, pos_all l (k + 1) (by omega)]; rfl
theorem gbt_3 (a : Int) : gbt a 3 = 0 := by
 unfold gbt
 rw [if_neg (fun h => absurd h.2 (by decide)), if_pos (.inr (by decide))]
theorem pl_cons (a b : Int) (D : List Int) : pl a (b :: D) = if gbt a b = 1 then gr b D + 1 else 0 := rfl
theorem gr_cons (q b : Int) (D : List Int) : gr q (b :: D) = (match nx q b with | none => 0 | some q' => gr q' D + 1) := rfl
theorem pl_gr (q : Int) (D : List Int) (h : Cl q) (h1 : q ≠ 12) (h2 : q ≠ 13) : gr q D = pl q D := by
 cases D with
 | nil => rfl
 | cons b D =>
  have h3 : q ≠ 14 := by have := h.2; omega
  have h4 : q ≠ 15 := by have := h.2; omega
  rw [gr_cons, pl_cons]
  unfold nx
  rw [if_neg h1, if_neg h2, if_neg h3, if_neg h4]
  by_cases hg : gbt q b = 1
  ·rw [if_pos hg, if_pos hg]
  ·rw [if_neg hg, if_neg hg]
theorem gr_15 (D : List Int) : gr 15 D = pl 13 D := by
 cases D with
 | nil => rfl
 | cons b D =>
  rw [gr_cons, pl_cons]
  unfold nx
  rw [if_neg (by decide), if_neg (by decide), if_neg (by decide), if_pos rfl]
  by_cases hg : gbt 13 b = 1
  ·rw [if_pos hg, if_pos hg]
  ·rw [if_neg hg, if_neg hg]
theorem gr_12 (D : List Int) (h1 : D.headD 3 ≠ 4) (h2 : D.headD 3 ≠ 5) : gr 12 D = pl 12 D := by
 cases D with
 | nil => rfl
 | cons b D =>
  simp only [List.headD_cons] at h1 h2
  rw [gr_cons, pl_cons]
  unfold nx
  rw [if_pos rfl, if_neg h1, if_neg h2]
  by_cases hg : gbt 12 b = 1
  ·rw [if_pos hg, if_pos hg]
  ·rw [if_neg hg, if_neg hg]
theorem gr_14 (D : List Int) (h1 : D.headD 3 ≠ 12) : gr 14 D = pl 5 D := by
 cases D with
 | nil => rfl
 | cons b D =>
  simp only [List.headD_cons] at h1
  rw [gr_cons, pl_cons]
  unfold nx
  rw [if_neg (by decide), if_neg (by decide), if_pos rfl, if_neg h1]
  by_cases hg : gbt 5 b = 1
  ·rw [if_pos hg, if_pos hg]
  ·rw [if_neg hg, if_neg hg]
theorem gr_13 (D : List Int) (h1 : D.headD 3 ≠ 13) : gr 13 D = pl 13 D := by
 cases D with
 | nil => rfl
 | cons b D =>
  simp only [List.headD_cons] at h1
  rw [gr_cons, pl_cons]
  unfold nx
  rw [if_neg (by decide), if_pos rfl, if_neg h1]
  by_cases hg : gbt 13 b = 1
  ·rw [if_pos hg, if_pos hg]
  ·rw [if_neg hg, if_neg hg]
theorem gr_124 (D : List Int) : gr 12 (4 :: D) = gr 12 D + 1 := rfl
theorem gr_125 (D : List Int) : gr 12 (5 :: D) = gr 14 D + 1 := rfl
theorem gr_142 (D : List Int) : gr 14 (12 :: D) = gr 12 D + 1 := rfl
theorem gr_133 (D : List Int) : gr 13 (13 :: D) = gr 15 D + 1 := rfl
theorem pl_no (a : Int) (D : List Int) (h : gbt a (D.headD 3) ≠ 1) : pl a D = 0 := by
 cases D with
 | nil => rfl
 | cons b D => unfold pl; exact if_neg h
theorem pl_yes (a : Int) (D : List Int) (h : gbt a (D.headD 3) = 1) : D ≠ [] /\ pl a D = gr (D.headD 3) D.tail + 1 := by
 cases D with
 | nil => exact absurd (gbt_3 a) (by rw [show gbt a 3 = 1 from h]; decide)
 | cons b D => exact ⟨by simp, if_pos h⟩
theorem hd_ne (D : List Int) (b : Int) (h : D.headD 3 = b) (hb : b ≠ 3) : D = b :: D.tail := by
 cases D with
 | nil => exact absurd h.symm hb
 | cons c D => rw [<- h]; rfl
theorem ofFn_all {k : Nat} (t : Array Value) (h : t.size = k) : t = Array.ofFn (fun i : Fin k => t.getD i undef) := by
 apply Array.ext
 ·simp [h]
 ·intro i h1 h2
  simp [Array.getD, h1]
theorem ofFnLit (f : Nat -> Value) : Array.ofFn (fun i : Fin 64 => f i) = #[f 0, f 1, f 2, f 3, f 4, f 5, f 6, f 7, f 8, f 9, f 10, f 11, f 12, f 13, f 14, f 15, f 16, f 17, f 18, f 19, f 20, f 21, f 22, f 23, f 24, f 25, f 26, f 27, f 28, f 29, f 30, f 31, f 32, f 33, f 34, f 35, f 36, f 37, f 38, f 39, f 40, f 41, f 42, f 43, f 44, f 45, f 46, f 47, f 48, f 49, f 50, f 51, f 52, f 53, f 54, f 55, f 56, f 57, f 58, f 59, f 60, f 61, f 62, f 63] := by kernel_rfl
def at_ (a : Act) (i : Nat) : Value := a.tmps.getD i undef
theorem frameLit (a : Act) (hs : a.tmps.size = 64) (hd : a.defers = []) (v0 v3 v5 : Value) (h0 : at_ a 0 = v0) (h3 : at_ a 3 = v3) (h5 : at_ a 5 = v5) :
  ∃ u : Nat -> Value, a = { tmps := #[v0, u 1, u 2, v3, u 4, v5, u 6, u 7, u 8, u 9, u 10, u 11, u 12, u 13, u 14, u 15, u 16, u 17, u 18, u 19, u 20, u 21, u 22, u 23, u 24, u 25, u 26, u 27, u 28, u 29, u 30, u 31, u 32, u 33, u 34, u 35, u 36, u 37, u 38, u 39, u 40, u 41, u 42, u 43, u 44, u 45, u 46, u 47, u 48, u 49, u 50, u 51, u 52, u 53, u 54, u 55, u 56, u 57, u 58, u 59, u 60, u 61, u 62, u 63], defers := [] } := by
 obtain ⟨t, d⟩ := a
 subst hd
 refine ⟨fun i => t.getD i undef, ?_⟩
 simp only [at_] at h0 h3 h5
 subst h0 h3 h5
 exact congrArg (fun t => (Act.mk t [] : Act)) ((ofFn_all t hs).trans (ofFnLit fun i => t.getD i undef))
def fsJ (l : List UInt8) (w : World) (b : Nat) (a : Act) (wr : World) : Prop :=
 ∃ (k p : Nat) (av : Int), k <= (rl l).length /\ p = pos l k /\ Below w.heap.size w wr /\ a.tmps.size = 64 /\ a.defers = [] /\ at_ a 0 = .string ⟨l.toArray⟩ /\ at_ a 3 = .int .i64 p /\ at_ a 5 = .int .i64 av ∧
  (b = 2 /\ Cl av /\ fstC (gcs l) = k + gr av ((gcs l).drop k) \/ b = 3 /\ fstC (gcs l) = k + pl av ((gcs l).drop k) \/ b = 0 /\ av = 12 /\ fstC (gcs l) = k + gr 12 ((gcs l).drop k)
   \/ b = 4 /\ av = 5 /\ fstC (gcs l) = k + gr 14 ((gcs l).drop k) \/ b = 1 /\ av = 13 /\ fstC (gcs l) = k + gr 13 ((gcs l).drop k))
def fsμ (n : Nat) (b : Nat) (a : Act) (_ : World) : Nat := 4 * (n - (intOf (at_ a 3)).toNat) + (if b = 2 then 3 else if b = 3 then 1 else 2)
def gfs (l : List UInt8) : Nat := pos l (fstC (gcs l))
theorem fs_tail (l : List UInt8) (k : Nat) (b : Int) (h : ((gcs l).drop k).headD 3 = b) (hb : b ≠ 3) : k < (rl l).length /\ (gcs l).drop k = b :: (gcs l).drop (k + 1) := by
 have h1 := hd_ne _ b h hb
 rw [List.tail_drop] at h1
 refine ⟨?_, h1⟩
 rcases Nat.lt_or_ge k (rl l).length with h2 | h2
 ·exact h2
 ·rw [List.drop_of_length_le (by rw [gcs_len]; exact h2)] at h1
  cases h1
set_option maxHeartbeats 8000000 in
set_option maxRecDepth 100000 in
theorem gfirst_any (l : List UInt8) (w : World) (ht : TbW w) (hl : l.length <= 1000000000) (hne : l ≠ []) :
  Calls Tryz.prog 61 #[.string ⟨l.toArray⟩] w fun e w' => e = .returned (.int .i64 (gfs l)) /\ Below w.heap.size w w' := by
 have HT := hid ht
 have HNE := hid (show 0 < (rl l).length by rw [rl_cons l hne]; simp)
 clear ht hne
 go_enter Tryz.func61, Tryz.ntmps61
 go_wp2
 refine wp_scope_many (fsJ l w) (fsμ l.length) ?pass ?first
 case first =>
  intro hp
  refine first3 hp rfl rfl rfl ?_
  clear hp
  go_wp2_with fail
  refine (gstep_any l 0 w HT.out hl (Nat.zero_le _)).mono ?_
  rintro e w1 ⟨rfl, be⟩; have HB := hid be
  have HS := hid (gstep_pos l 0 (Nat.zero_le _))
  rw [pos_0] at HS
  obtain ⟨c0, hc0⟩ : ∃ c, c = (gcs l).headD 3 := ⟨_, rfl⟩
  rw [HS.out]
  simp only [List.drop_zero]
  rw [<- hc0]; have HL0 := hid (show gcs l = (gcs l).headD 3 :: (gcs l).drop 1 by
   cases hg : gcs l with
   | nil => have h1 := gcs_len l; rw [hg] at h1; have h2 := HNE.out; simp only [List.length_nil] at h1; omega
   | cons c L => rfl)
  have HCL := hid (hd_cl _ (gcs_cl l))
  rw [<- hc0] at HL0 HCL
  clear be hc0
  go_wp2; refine ⟨1, pos l 1, c0, HNE.out, rfl, HB.out, rfl, rfl, rfl, rfl, rfl, .inl ⟨rfl, HCL.out, ?_⟩⟩
  conv => lhs; rw [HL0.out]
  exact Nat.add_comm _ _
 case pass =>
  rintro lb a wr ⟨k, p, av, hk, hp, hB, hsz, hdf, t0, t3, t5, hcase⟩
  obtain ⟨M, hμ⟩ : ∃ M, fsμ l.length lb a wr = M := ⟨_, rfl⟩
  rw [hμ]; obtain ⟨u, rfl⟩ := frameLit a hsz hdf _ _ _ t0 t3 t5
  clear hsz hdf t0 t3 t5
  simp [fsμ, intOf, at_] at hμ
  have HM := hid hμ
  have HB := hid hB
  have HP := hid hp
  have hpl : p <= l.length := by rw [hp]; exact pos_le l k hk
  have HS := hid (show gstep l p = (((gcs l).drop k).headD 3, pos l (k + 1)) by rw [hp]; exact gstep_pos l k hk)
  obtain ⟨b, hb⟩ : ∃ b, b = ((gcs l).drop k).headD 3 := ⟨_, rfl⟩
  obtain ⟨q, hq⟩ : ∃ q, q = pos l (k + 1) := ⟨_, rfl⟩
  rw [<- hb, <- hq] at HS
  have HCB := hid (show Cl b by rw [hb]; exact hd_cl _ (fun c hc => gcs_cl l c (List.mem_of_mem_drop hc)))
  have HD := hid hb
  have HK := hid hk
  have HQ0 := hid hq
  clear hμ hB hp hb hk hq
  rcases hcase with ⟨rfl, hcl, hT⟩ | ⟨rfl, hT⟩ | ⟨rfl, rfl, hT⟩ | ⟨rfl, rfl, hT⟩ | ⟨rfl, rfl, hT⟩
  all_goals refine ⟨_, rfl, ?_⟩
  ·-- begin
   by_cases h12 : av = 12
   ·subst h12
    have HTT := hid hT
    clear hT
    go_wp2
    go_step3
    refine ⟨⟨k, p, 12, HK.out, HP.out, HB.out, rfl, rfl, rfl, rfl, rfl, .inr (.inr (.inl ⟨rfl, rfl, HTT.out⟩))⟩, ?_⟩
    have h1 := HM.out
    simp at h1
    simp [fsμ, intOf, at_]
    omega
   by_cases h13 : av = 13
   ·subst h13
    have HTT := hid hT
    clear hT
    go_wp2
    go_step3
    refine ⟨⟨k, p, 13, HK.out, HP.out, HB.out, rfl, rfl, rfl, rfl, rfl, .inr (.inr (.inr (.inr ⟨rfl, rfl, HTT.out⟩)))⟩, ?_⟩
    have h1 := HM.out
    simp at h1
    simp [fsμ, intOf, at_]
    omega
   have b12 : (av == 12) = false := beq_eq_false_iff_ne.2 h12
   have b13 : (av == 13) = false := beq_eq_false_iff_ne.2 h13
   have HTT := hid (show fstC (gcs l) = k + pl av ((gcs l).drop k) by rw [<- pl_gr av _ hcl h12 h13]; exact hT)
   clear hT h12 h13 hcl
   go_wp2_with fail
   refine wp_label ?_
   go_wp2_with fail
   refine (gstep_any l p wr (HT.out.below HB.out) hl hpl).mono ?_
   rintro e w1 ⟨rfl, be⟩; have HB1 := hid (HB.out.trans (be.mono HB.out.size))
   rw [HS.out]
   simp only []
   clear be
   go_wp2_with fail
   refine (gbt_any av b w1).mono ?_
   rintro e w2 ⟨rfl, hw2⟩; obtain rfl := hw2.symm
   clear hw2
   by_cases hg : gbt av b = 1
   ·have hgb : ((gbt av b : Int) != 1) = false := by rw [hg]; rfl
    obtain ⟨y1, y2⟩ := pl_yes av _ (by rw [<- HD.out]; exact hg)
    have hkl : k < (rl l).length := by
     rcases Nat.lt_or_ge k (rl l).length with h | h
     ·exact h
     ·exact absurd (List.drop_of_length_le (by rw [gcs_len]; exact h)) y1
    have HT1 := hid (show fstC (gcs l) = (k + 1) + gr b ((gcs l).drop (k + 1)) by rw [HTT.out, y2, <- HD.out, List.tail_drop]; omega)
    have HPL := hid (pos_lt l k hkl)
    have HPL2 := hid (pos_le l (k + 1) hkl)
    have HQ := hid (show q = pos l (k + 1) from HQ0.out)
    have HKL := hid hkl
    clear hg y1 y2 hkl
    go_wp2
    go_step3
    refine ⟨⟨k + 1, q, b, HKL.out, HQ.out, HB1.out, rfl, rfl, rfl, rfl, rfl, .inl ⟨rfl, HCB.out, HT1.out⟩⟩, ?_⟩
    have h1 := HM.out
    simp at h1
    have h2 := HPL.out
    have h3 := HPL2.out
    have h4 := HQ.out
    have h5 := HP.out
    simp [fsμ, intOf, at_]
    omega
   ·have hgb : ((gbt av b : Int) != 1) = true := by simpa using hg
    have HF := hid (show fstC (gcs l) = k by rw [HTT.out, pl_no av _ (by rw [<- HD.out]; exact hg)]; rfl)
    clear hg
    go_wp2
    simp only [jumpAll_ret]
    go_ret; exact ⟨by unfold gfs; rw [HF.out, <- HP.out]; rfl, HB1.out⟩
  ·-- plain
   have HTT := hid hT
   clear hT
   go_wp2_with fail
   refine (gstep_any l p wr (HT.out.below HB.out) hl hpl).mono ?_
   rintro e w1 ⟨rfl, be⟩; have HB1 := hid (HB.out.trans (be.mono HB.out.size))
   rw [HS.out]
   simp only []
   clear be
   go_wp2_with fail
   refine (gbt_any av b w1).mono ?_
   rintro e w2 ⟨rfl, hw2⟩; obtain rfl := hw2.symm
   clear hw2
   by_cases hg : gbt av b = 1
   ·have hgb : ((gbt av b : Int) != 1) = false := by rw [hg]; rfl
    obtain ⟨y1, y2⟩ := pl_yes av _ (by rw [<- HD.out]; exact hg)
    have hkl : k < (rl l).length := by
     rcases Nat.lt_or_ge k (rl l).length with h | h
     ·exact h
     ·exact absurd (List.drop_of_length_le (by rw [gcs_len]; exact h)) y1
    have HT1 := hid (show fstC (gcs l) = (k + 1) + gr b ((gcs l).drop (k + 1)) by rw [HTT.out, y2, <- HD.out, List.tail_drop]; omega)
    have HPL := hid (pos_lt l k hkl)
    have HPL2 := hid (pos_le l (k + 1) hkl)
    have HQ := hid (show q = pos l (k + 1) from HQ0.out)
    have HKL := hid hkl
    clear hg y1 y2 hkl
    go_wp2
    go_step3
    refine ⟨⟨k + 1, q, b, HKL.out, HQ.out, HB1.out, rfl, rfl, rfl, rfl, rfl, .inl ⟨rfl, HCB.out, HT1.out⟩⟩, ?_⟩
    have h1 := HM.out
    simp at h1
    have h2 := HPL.out
    have h3 := HPL2.out
    have h4 := HQ.out
    have h5 := HP.out
    simp [fsμ, intOf, at_]
    omega
   ·have hgb : ((gbt av b : Int) != 1) = true := by simpa using hg
    have HF := hid (show fstC (gcs l) = k by rw [HTT.out, pl_no av _ (by rw [<- HD.out]; exact hg)]; rfl)
    clear hg
    go_wp2
    simp only [jumpAll_ret]
    go_ret; exact ⟨by unfold gfs; rw [HF.out, <- HP.out]; rfl, HB1.out⟩
  ·-- picture
   have HTT := hid hT
   clear hT
   go_wp2_with fail
   refine (gstep_any l p wr (HT.out.below HB.out) hl hpl).mono ?_
   rintro e w1 ⟨rfl, be⟩; have HB1 := hid (HB.out.trans (be.mono HB.out.size))
   rw [HS.out]
   simp only []
   clear be
   by_cases h4 : b = 4
   ·subst h4
    obtain ⟨y1, y2⟩ := fs_tail l k 4 HD.out.symm (by decide)
    have HT1 := hid (show fstC (gcs l) = (k + 1) + gr 12 ((gcs l).drop (k + 1)) by rw [HTT.out, y2, gr_124]; omega)
    have HPL := hid (pos_lt l k y1)
    have HPL2 := hid (pos_le l (k + 1) y1)
    have HQ := hid (show q = pos l (k + 1) from HQ0.out)
    have HKL := hid y1
    clear y1 y2
    go_wp2
    go_step3
    refine ⟨⟨k + 1, q, 12, HKL.out, HQ.out, HB1.out, rfl, rfl, rfl, rfl, rfl, .inr (.inr (.inl ⟨rfl, rfl, HT1.out⟩))⟩, ?_⟩
    have h1 := HM.out
    simp at h1
    have h2 := HPL.out
    have h3 := HPL2.out
    have h4 := HQ.out
    have h5 := HP.out
    simp [fsμ, intOf, at_]
    omega
   by_cases h5 : b = 5
   ·subst h5
    obtain ⟨y1, y2⟩ := fs_tail l k 5 HD.out.symm (by decide)
    have HT1 := hid (show fstC (gcs l) = (k + 1) + gr 14 ((gcs l).drop (k + 1)) by rw [HTT.out, y2, gr_125]; omega)
    have HPL := hid (pos_lt l k y1)
    have HPL2 := hid (pos_le l (k + 1) y1)
    have HQ := hid (show q = pos l (k + 1) from HQ0.out)
    have HKL := hid y1
    clear y1 y2
    go_wp2
    go_step3
    refine ⟨⟨k + 1, q, 5, HKL.out, HQ.out, HB1.out, rfl, rfl, rfl, rfl, rfl, .inr (.inr (.inr (.inl ⟨rfl, rfl, HT1.out⟩)))⟩, ?_⟩
    have h1 := HM.out
    simp at h1
    have h2 := HPL.out
    have h3 := HPL2.out
    have h4 := HQ.out
    have h5 := HP.out
    simp [fsμ, intOf, at_]
    omega
   have b4 : (b == 4) = false := beq_eq_false_iff_ne.2 h4
   have b5 : (b == 5) = false := beq_eq_false_iff_ne.2 h5
   have HT1 := hid (show fstC (gcs l) = k + pl 12 ((gcs l).drop k) by rw [<- gr_12 _ (by rw [<- HD.out]; exact h4) (by rw [<- HD.out]; exact h5)]; exact HTT.out)
   clear h4 h5
   go_wp2
   go_step3
   refine ⟨⟨k, p, 12, HK.out, HP.out, HB1.out, rfl, rfl, rfl, rfl, rfl, .inr (.inl ⟨rfl, HT1.out⟩)⟩, ?_⟩
   have h1 := HM.out
   simp at h1
   simp [fsμ, intOf, at_]
   omega
  ·-- joiner
   have HTT := hid hT
   clear hT
   go_wp2_with fail
   refine (gstep_any l p wr (HT.out.below HB.out) hl hpl).mono ?_
   rintro e w1 ⟨rfl, be⟩; have HB1 := hid (HB.out.trans (be.mono HB.out.size))
   rw [HS.out]
   simp only []
   clear be
   by_cases h4 : b = 12
   ·subst h4
    obtain ⟨y1, y2⟩ := fs_tail l k 12 HD.out.symm (by decide)
    have HT1 := hid (show fstC (gcs l) = (k + 1) + gr 12 ((gcs l).drop (k + 1)) by rw [HTT.out, y2, gr_142]; omega)
    have HPL := hid (pos_lt l k y1)
    have HPL2 := hid (pos_le l (k + 1) y1)
    have HQ := hid (show q = pos l (k + 1) from HQ0.out)
    have HKL := hid y1
    clear y1 y2
    go_wp2
    go_step3
    refine ⟨⟨k + 1, q, 12, HKL.out, HQ.out, HB1.out, rfl, rfl, rfl, rfl, rfl, .inr (.inr (.inl ⟨rfl, rfl, HT1.out⟩))⟩, ?_⟩
    have h1 := HM.out
    simp at h1
    have h2 := HPL.out
    have h3 := HPL2.out
    have h4 := HQ.out
    have h5 := HP.out
    simp [fsμ, intOf, at_]
    omega
   have b4 : (b == 12) = false := beq_eq_false_iff_ne.2 h4
   have HT1 := hid (show fstC (gcs l) = k + pl 5 ((gcs l).drop k) by rw [<- gr_14 _ (by rw [<- HD.out]; exact h4)]; exact HTT.out)
   clear h4
   go_wp2
   go_step3
   refine ⟨⟨k, p, 5, HK.out, HP.out, HB1.out, rfl, rfl, rfl, rfl, rfl, .inr (.inl ⟨rfl, HT1.out⟩)⟩, ?_⟩
   have h1 := HM.out
   simp at h1
   simp [fsμ, intOf, at_]
   omega
  ·-- flag
   have HTT := hid hT
   clear hT
   go_wp2_with fail
   refine (gstep_any l p wr (HT.out.below HB.out) hl hpl).mono ?_
   rintro e w1 ⟨rfl, be⟩; have HB1 := hid (HB.out.trans (be.mono HB.out.size))
   rw [HS.out]
   simp only []
   clear be
   by_cases h4 : b = 13
   ·subst h4
    obtain ⟨y1, y2⟩ := fs_tail l k 13 HD.out.symm (by decide)
    have HT1 := hid (show fstC (gcs l) = (k + 1) + pl 13 ((gcs l).drop (k + 1)) by rw [HTT.out, y2, gr_133, gr_15]; omega)
    have HPL := hid (pos_lt l k y1)
    have HPL2 := hid (pos_le l (k + 1) y1)
    have HQ := hid (show q = pos l (k + 1) from HQ0.out)
    have HKL := hid y1
    clear y1 y2
    go_wp2
    go_step3
    refine ⟨⟨k + 1, q, 13, HKL.out, HQ.out, HB1.out, rfl, rfl, rfl, rfl, rfl, .inr (.inl ⟨rfl, HT1.out⟩)⟩, ?_⟩
    have h1 := HM.out
    simp at h1
    have h2 := HPL.out
    have h3 := HPL2.out
    have h4 := HQ.out
    have h5 := HP.out
    simp [fsμ, intOf, at_]
    omega
   have b4 : (b == 13) = false := beq_eq_false_iff_ne.2 h4
   have HT1 := hid (show fstC (gcs l) = k + pl 13 ((gcs l).drop k) by rw [<- gr_13 _ (by rw [<- HD.out]; exact h4)]; exact HTT.out)
   clear h4
   go_wp2
   go_step3
   refine ⟨⟨k, p, 13, HK.out, HP.out, HB1.out, rfl, rfl, rfl, rfl, rfl, .inr (.inl ⟨rfl, HT1.out⟩)⟩, ?_⟩
   have h1 := HM.out
   simp at h1
   simp [fsμ, intOf, at_]
   omega
end Go.Proofs.YtdpohgoikbeplaaGreatDoor.Wt
namespace Go.Proofs.YtdpohgoikbeplaaGreatDoor.Wt
open Go.RowKit Go.Shelf
attribute [local go_sem] Oper.semAt_some
theorem gfs_bd (l : List UInt8) (h : l ≠ []) : 0 < gfs l /\ gfs l <= l.length := by
 have hn : 0 < (rl l).length := by rw [rl_cons l h]; simp
 have hb := fstC_bd (gcs l) (fun e => by have := gcs_len l; rw [e] at this; simp only [List.length_nil] at this; omega)
 rw [gcs_len] at hb
 unfold gfs
 refine ⟨?_, pos_le l _ hb.2⟩
 have := pos_mono l (fstC (gcs l)) 0 (by omega)
 rw [Nat.zero_add, pos_0] at this
 omega
theorem gst (l : List UInt8) (p : Nat) (h : p < l.length) : p < p + gfs (l.drop p) /\ p + gfs (l.drop p) <= l.length := by
 have h1 := gfs_bd (l.drop p) (drop_ne l p h)
 rw [List.length_drop] at h1
 omega
def plc : Nat -> List (List (Nat × Nat)) -> List (Nat × Nat)
 | _, [] => []
 | p, x :: L => (p, p + psm x) :: plc (p + psm x) L
theorem plc_app : ∀ (A B : List (List (Nat × Nat))) (p : Nat), plc p (A ++ B) = plc p A ++ plc (p + psm A.flatten) B
 | [], B, p => by simp [plc, psm]
 | x :: A, B, p => by
  rw [List.cons_append, plc, plc_app A B, plc, List.flatten_cons, psm_app, List.cons_append, Nat.add_assoc]
theorem plc_len : ∀ (A : List (List (Nat × Nat))) (p : Nat), (plc p A).length = A.length
 | [], _ => rfl
 | x :: A, p => by rw [plc, List.length_cons, List.length_cons, plc_len A]
def gpF (l : List UInt8) (p : Nat) : List (Nat × Nat) := plc p (pcl gc (rl (l.drop p)))
theorem gp_end (l : List UInt8) (p : Nat) (h : ¬ p < l.length) : gpF l p = [] := by
 unfold gpF
 rw [List.drop_of_length_le (by omega)]; rfl
theorem gp_step (l : List UInt8) (p : Nat) (h : p < l.length) : gpF l p = (p, p + gfs (l.drop p)) :: gpF l (p + gfs (l.drop p)) := by
 have hne := drop_ne l p h
 have hrn : rl (l.drop p) ≠ [] := by rw [rl_cons _ hne]; simp
 have hb := fst_bd gc (rl (l.drop p)) hrn
 unfold gpF
 rw [pcl_cons gc _ hrn, plc]
 have e1 : psm ((rl (l.drop p)).take (fstC ((rl (l.drop p)).map gc))) = gfs (l.drop p) := rfl
 have e2 : rl (l.drop (p + gfs (l.drop p))) = (rl (l.drop p)).drop (fstC ((rl (l.drop p)).map gc)) := by
  rw [<- List.drop_drop]; exact rl_drop (l.drop p) _ hb.2
 rw [e1, <- e2]
structure Pl (l : List UInt8) where
 v : Nat × Nat
 lt : v.1 < v.2
 le : v.2 <= l.length
theorem gp_all (l : List UInt8) : ∀ (n p : Nat), l.length - p <= n -> ∃ L : List (Pl l), L.map Pl.v = gpF l p /\ L.length <= l.length - p
 | n, p, hn => by
  by_cases h : p < l.length
  ·have h1 := gst l p h
   cases n with
   | zero => omega
   | succ n =>
    obtain ⟨L, hL, hLl⟩ := gp_all l n (p + gfs (l.drop p)) (by omega)
    exact ⟨⟨(p, p + gfs (l.drop p)), h1.1, h1.2⟩ :: L, by rw [gp_step l p h, List.map_cons, hL], by rw [List.length_cons]; omega⟩
  ·exact ⟨[], by rw [gp_end l p h]; rfl, by simp⟩
def encP {l : List UInt8} (x : Pl l) : Array Value := #[.int .i64 (x.v.1 : Nat), .int .i64 (x.v.2 : Nat)]
set_option maxHeartbeats 2000000 in
theorem geach_stops (n : Nat) (hn : 1 <= n) (Bs : Nat) (l : List UInt8) (L : List (Pl l)) (hL : L.map Pl.v = gpF l 0) (w : World) (hR : WaAt Bs l w) (hl : l.length <= 1000000000) :
  SeqStopsK Fence.wide n Tryz.prog 60 #[.pointer (some ⟨Bs, 0, none⟩)] encP (KrW (KW Bs)) (fun xs => xs = L) (fun pre => pre <+: L) L.length w := fun lp J Jx W hbW hJ hJx hY h0 => by
 have HRW := hid (hR.below hbW)
 have hcW := HRW.out.bs.cell
 have HLL := hid hL
 clear hR hbW hL
 refine callsIn_of_wp Tryz.func60 rfl trivial ?_ rfl
 simp only [Tryz.ntmps60, List.size_toArray, List.length_cons, List.length_nil, Nat.reduceAdd, Nat.reduceSub, Array.replicate_succ, Array.replicate_zero, List.push_toArray, List.append_toArray, List.nil_append, List.cons_append]
 gi_wp2
 gi_loopw [3] (fun v wr => ∃ (p : Nat) (pre rest : List (Pl l)), v = .int .i64 p /\ p <= l.length /\ Hid (rest.map Pl.v = gpF l p) /\ Hid (L = pre ++ rest) /\ Hid (J pre wr) /\ Hid (WaAt Bs l wr)) (fun v _ => l.length - (intOf v).toNat)
 case atStart => exact ⟨0, [], L, rfl, Nat.zero_le _, HLL, rfl, h0, HRW⟩
 case round =>
  obtain ⟨p, pre, rest, rfl, hp, HC, HP, HJ, HR⟩ := hrel
  clear hcW; have hc := HR.out.bs.cell
  by_cases hlt : p < l.length
  ·have hlti : (p : Int) < (l.length : Int) := by omega
   obtain ⟨hb1, hb2⟩ := gst l p hlt
   have HDN := hid (drop_ne l p hlt)
   have HDL := hid (show (l.drop p).length <= 1000000000 by rw [List.length_drop]; omega)
   obtain ⟨x, R, rfl⟩ : ∃ x R, rest = x :: R := by
    cases rest with
    | nil => have h1 := HC.out; rw [gp_step l p hlt] at h1; cases h1
    | cons x R => exact ⟨x, R, rfl⟩
   have hx := HC.out
   rw [gp_step l p hlt, List.map_cons] at hx
   have HX := hid (List.cons.inj hx).1
   have HRR := hid (List.cons.inj hx).2
   clear hx HC
   gi_wp2_with fail
   rw [ext_drop]; refine ⟨trivial, (callsIn_wide.2 (gfirst_any (l.drop p) wr HR.out.tb HDL.out HDN.out)).mono ?_⟩
   rintro e w1 ⟨rfl, be1⟩; have HJ1 := hid (hJ pre wr w1 none HJ.out (wgrown be1) (fun r e => by cases e))
   have HR1 := hid (HR.out.below be1)
   obtain ⟨q, hq⟩ : ∃ q, q = gfs (l.drop p) := ⟨_, rfl⟩
   rw [<- hq] at hb1 hb2 HX HRR
   rw [<- hq]; clear be1 hq HJ HR hc; have HP2 := hid (show L = (pre ++ [x]) ++ R by rw [HP.out, List.append_assoc]; rfl)
   obtain ⟨fn, tmps, assign, body, hy, hRR⟩ := hY pre x w1 HJ1.out (by rw [HP2.out]; simp)
   dsimp only [encP] at hy
   rw [HX.out] at hy
   simp only [Int.natCast_add] at hy
   clear hY
   gi_wp2; refine hRR.mono ?_
   rintro e W3 (⟨rfl, hJ3, hk3⟩ | ⟨rfl, hJx3⟩)
   ·have HJ3 := hid hJ3
    have HR3 := hid (HR1.out.keeps hk3.1.size hk3.2)
    clear hJ3 hk3
    gi_wp2
    go_roundw
    case rel => exact ⟨p + q, pre ++ [x], R, by rw [Int.natCast_add], hb2, HRR, HP2, HJ3, HR3⟩
    case measure => simp [intOf]; omega
   ·have HJX := hid hJx3
    clear hJx3
    gi_wp2; refine bodyPost_ret (results_none rfl _ _ _) rfl ?_
    exact ⟨⟨_, rfl⟩, .inr ⟨pre ++ [x], ⟨R, by rw [HP2.out]⟩, HJX.out⟩⟩
  ·have hlti : ¬ (p : Int) < (l.length : Int) := by omega
   have HE := hid (show L = pre by
    cases rest with
    | nil => rw [HP.out, List.append_nil]
    | cons x R => have h1 := HC.out; rw [gp_end l p hlt] at h1; cases h1)
   gi_wp2
   go_end0
   exact ⟨⟨_, rfl⟩, .inl (by rw [HE.out]; exact HJ.out)⟩
theorem geach_any (l : List UInt8) (w : World) :
  Calls Tryz.prog 25 #[.string ⟨l.toArray⟩] w fun e w' => e = .returned (.func (.func 60) #[] #[.pointer (some ⟨w.heap.size, 0, none⟩)]) /\ w' = w.alloc (.cells #[.string ⟨l.toArray⟩] 9) := by
 go_enter Tryz.func25, Tryz.ntmps25
 go_wp2
 go_ret
 exact ⟨rfl, rfl⟩
structure BS (S : Nat -> Prop) (W W' : World) : Prop where
 os : W'.os = W.os
 tape : W'.tape = W.tape
 output : W'.output = W.output
 size : W.heap.size <= W'.heap.size
 block : ∀ k, k < W.heap.size -> ¬ S k -> W'.heap[k]? = W.heap[k]?
 others : KeepsOthers W W'
theorem BS.refl (S : Nat -> Prop) (W : World) : BS S W W := ⟨rfl, rfl, rfl, Nat.le_refl _, fun _ _ _ => rfl, KeepsOthers.refl W⟩
theorem BS.trans {S : Nat -> Prop} {A B C : World} (h : BS S A B) (k : BS S B C) : BS S A C :=
 ⟨k.os.trans h.os, k.tape.trans h.tape, k.output.trans h.output, Nat.le_trans h.size k.size, fun i hi hs => (k.block i (Nat.lt_of_lt_of_le hi h.size) hs).trans (h.block i hi hs), ⟨Nat.le_trans h.size k.size, fun i o hi ho => k.others.same i o (h.others.same i o hi ho) ho⟩⟩
theorem BS.below {S : Nat -> Prop} {W W' : World} (h : Below W.heap.size W W') : BS S W W' :=
 ⟨h.os, h.tape, h.output, h.size, fun k hk _ => h.block k hk, ⟨h.size, fun k _ hk _ => (h.block k (Array.getElem?_eq_some_iff.1 hk).1).trans hk⟩⟩
theorem BS.set {S : Nat -> Prop} (W : World) (B : Nat) (v : Value) (hB : S B) : BS S W (W.setCell ⟨B, 0, none⟩ v) :=
 have g := grownBy_setCell' W B v
 ⟨g.os, g.tape, g.output, g.size, fun k hk hs => g.block k hk (fun e => hs (by cases e; exact hB)), KeepsOthers.setCell W _ v⟩
theorem BS.lower {S : Nat -> Prop} {W W' : World} (h : BS S W W') (B : Nat) (hB : ∀ k, S k -> B <= k) (hs : B <= W.heap.size) : Below B W W' :=
 ⟨h.os, h.tape, h.output, h.size, fun k hk => h.block k (Nat.lt_of_lt_of_le hk hs) (fun e => by have := hB k e; omega)⟩
end Go.Proofs.YtdpohgoikbeplaaGreatDoor.Wt
namespace Go.Proofs.YtdpohgoikbeplaaGreatDoor.Wt
open Go.RowKit Go.Shelf
def bdQ {α : Type} (I : List α -> World -> Prop) (Ix : Code -> List α -> World -> Prop) (xs : List α) : Exit -> World -> Prop
 | .normal, W => I xs W
 | .ret, W => Ix .ret xs W
 | .exit i, W => Ix (.exit i) xs W
 | _, _ => False
theorem bs_from {β : Type} (S : Nat -> Prop) (w : World) : OwnFrom w.heap.size (fun (_ : β) W => BS S w W) := fun _ A C row h hg hr => by
 have hb : ∀ k, k < w.heap.size -> C.heap[k]? = A.heap[k]? := fun k hk => hg.block k (Nat.lt_of_lt_of_le hk h.size) (fun e => by
  obtain ⟨hle, _⟩ := hr k e.symm
  omega)
 exact ⟨hg.os.trans h.os, hg.tape.trans h.tape, hg.output.trans h.output, Nat.le_trans h.size hg.size, fun k hk hs => (hb k hk).trans (h.block k hk hs),
  ⟨Nat.le_trans h.size hg.size, fun k o hk ho => (hb k (Array.getElem?_eq_some_iff.1 hk).1).trans (h.others.same k o hk ho)⟩⟩
theorem BS.keeps {S : Nat -> Prop} {Bs : Nat} {l : List UInt8} {W W' : World} (h : BS S W W') (hS : ∀ k, S k -> ¬ KW Bs k) (hE : WaAt Bs l W) : KrW (KW Bs) W W' :=
 ⟨⟨h.size, fun k o hk hw => h.others.same k o hk (Obj.not_cells_of_walk hw)⟩, fun k hk => h.block k (hE.lt k hk) (fun e => hS k e hk)⟩
theorem rfE {l : List UInt8} {n : Nat} {g : Operand} {ps : Array Tmp} {assign body : Code} {Q : Exit -> Act -> World -> Prop} {a : Act} {w : World}
  (Bs : Nat) (S : Nat -> Prop) (L : List (Pl l)) (h1 : 2 <= n) (hg : a.eval g = .func (.func 60) #[] #[.pointer (some ⟨Bs, 0, none⟩)])
  (hL : L.map Pl.v = gpF l 0) (hE : WaAt Bs l w) (hl : l.length <= 1000000000) (hps : 2 = ps.size) (hS : ∀ k, S k -> ¬ KW Bs k)
  (I : List (Pl l) -> World -> Prop) (Ix : Code -> List (Pl l) -> World -> Prop) (hI : OwnFrom w.heap.size I) (hIx : ∀ c, OwnFrom w.heap.size (Ix c)) (h0 : I [] w) (a₁ : Pl l -> Act)
  (hassign : ∀ (lp : Nat) (x : Pl l) (W : World) (K : Act -> World -> Prop), K (a₁ x) W ->
   assign.wpIn (Fence.wide.inRound lp) (n - 1 - 1) Tryz.prog (Exit.then K (fun _ _ _ => False)) { tmps := (ps.zip (encP x)).foldl (fun t (p, v) => t.setIfInBounds p v) a.tmps, defers := [] } W)
  (hbody : ∀ (lp : Nat) (pre : List (Pl l)) (x : Pl l) (W : World), I pre W -> BS S w W -> WaAt Bs l W -> pre.length < L.length -> body.wpIn (Fence.wide.inRound lp) (n - 1 - 1) Tryz.prog (fun e _ W' => BS S W W' /\ bdQ I Ix (pre ++ [x]) e W') (a₁ x) W)
  (hdone : ∀ (D : Nat) (W : World), w.heap.size <= D -> I L W -> BS S w W -> W.heap[D]? = some (.deferred (some [])) -> Q .normal { a with defers := { target := .collected D, args := #[] } :: a.defers } W)
  (hstop : ∀ (D : Nat) (c : Code) (pre : List (Pl l)) (W : World), w.heap.size <= D -> pre <+: L -> Ix c pre W -> BS S w W -> W.heap[D]? = some (.deferred (some [])) -> c.wpIn Fence.wide n Tryz.prog Q { a with defers := { target := .collected D, args := #[] } :: a.defers } W) :
  (Code.rangeFunc g ps assign body).wpIn Fence.wide n Tryz.prog Q a w := by
 have h2 := hE.tb.two
 refine wpIn_rangeFunc_ownG (F := Fence.wide) rfl (by omega) hg trivial (enters_of Tryz.func60 (by kernel_rfl) rfl) (geach_stops (n - 1) (by omega) Bs l L hL w hE hl) KrW_t (KrW_b hE.lt) (Below.refl _ _) (fun _ => hps)
  (fun pre W => (I pre W /\ BS S w W) /\ WaAt Bs l W) (fun c pre W => Ix c pre W /\ BS S w W)
  (OwnFrom.and (OwnFrom.and hI (bs_from S w)) (waAt_from _ _ l h2)) (fun c => OwnFrom.and (hIx c) (bs_from S w)) ⟨⟨h0, BS.refl S w⟩, hE⟩ a₁ hassign ?_ ?_ ?_
 ·rintro lp pre x W ⟨⟨hi, hb⟩, he⟩ hlt
  refine wpIn_mono (hbody lp pre x W hi hb he hlt) ?_
  rintro e _ W' ⟨hB, hq⟩
  have hK := hB.keeps hS he
  cases e with
  | normal => exact ⟨hB.others.from _, hK, ⟨hq, hb.trans hB⟩, he.keeps hB.size hK.2⟩
  | ret => exact ⟨hB.others.from _, hq, hb.trans hB⟩
  | exit i => exact ⟨hB.others.from _, hq, hb.trans hB⟩
  | goto t => exact (hq : False).elim
  | panic c => exact (hq : False).elim
  | outgrown => exact (hq : False).elim
 ·rintro D xs W hD rfl ⟨⟨hi, hb⟩, _⟩ hK
  exact hdone D W hD hi hb hK
 ·rintro D c pre W hD hp ⟨hx, hb⟩ hK
  exact hstop D c pre W hD hp hx hb hK
def fr {l : List UInt8} (a : Act) (ps : Array Tmp) (d1 d2 : Nat) (x : Pl l) : Act :=
 { tmps := (((ps.zip (encP x)).foldl (fun t (p, v) => t.setIfInBounds p v) a.tmps).setIfInBounds d1 (.int .i64 (x.v.1 : Nat))).setIfInBounds d2 (.int .i64 (x.v.2 : Nat)), defers := [] }
theorem rfF {l : List UInt8} {n : Nat} {g : Operand} {ps : Array Tmp} {assign body : Code} {Q : Exit -> Act -> World -> Prop} {a : Act} {w : World}
  (Bs : Nat) (S : Nat -> Prop) (L : List (Pl l)) (h1 : 2 <= n) (hg : a.eval g = .func (.func 60) #[] #[.pointer (some ⟨Bs, 0, none⟩)])
  (hL : L.map Pl.v = gpF l 0) (hE : WaAt Bs l w) (hl : l.length <= 1000000000) (hps : 2 = ps.size) (hS : ∀ k, S k -> ¬ KW Bs k)
  (I : List (Pl l) -> World -> Prop) (Ix : Code -> List (Pl l) -> World -> Prop) (hI : OwnFrom w.heap.size I) (hIx : ∀ c, OwnFrom w.heap.size (Ix c)) (h0 : I [] w) (d1 d2 : Nat)
  (hassign : ∀ (lp : Nat) (x : Pl l) (W : World) (K : Act -> World -> Prop), K (fr a ps d1 d2 x) W ->
   assign.wpIn (Fence.wide.inRound lp) (n - 1 - 1) Tryz.prog (Exit.then K (fun _ _ _ => False)) { tmps := (ps.zip (encP x)).foldl (fun t (p, v) => t.setIfInBounds p v) a.tmps, defers := [] } W)
  (hbody : ∀ (lp : Nat) (pre : List (Pl l)) (x : Pl l) (W : World), I pre W -> BS S w W -> WaAt Bs l W -> pre.length < L.length -> body.wpIn (Fence.wide.inRound lp) (n - 1 - 1) Tryz.prog (fun e _ W' => BS S W W' /\ bdQ I Ix (pre ++ [x]) e W') (fr a ps d1 d2 x) W)
  (hdone : ∀ (D : Nat) (W : World), w.heap.size <= D -> I L W -> BS S w W -> W.heap[D]? = some (.deferred (some [])) -> Q .normal { a with defers := { target := .collected D, args := #[] } :: a.defers } W)
  (hstop : ∀ (D : Nat) (c : Code) (pre : List (Pl l)) (W : World), w.heap.size <= D -> pre <+: L -> Ix c pre W -> BS S w W -> W.heap[D]? = some (.deferred (some [])) -> c.wpIn Fence.wide n Tryz.prog Q { a with defers := { target := .collected D, args := #[] } :: a.defers } W) :
  (Code.rangeFunc g ps assign body).wpIn Fence.wide n Tryz.prog Q a w :=
 rfE Bs S L h1 hg hL hE hl hps hS I Ix hI hIx h0 (fr a ps d1 d2) hassign hbody hdone hstop
theorem boxed_keep {A C : World} {B : Nat} {t : TypeId} {v : Value} {row : Option Nat} {n : Nat} (h : Boxed A B t v) (hg : A.grownBy C row) (hr : ∀ r, row = some r -> n <= r /\ ∃ o, A.heap[r]? = some o /\ o.isCells = false) : Boxed C B t v :=
 boxed_own B t (fun (_ : Unit) => v) () A C row h hg (fun r e => (hr r e).2)
theorem BS.boxed {S : Nat -> Prop} {W W' : World} {B : Nat} {t : TypeId} {v : Value} (h : BS S W W') (hb : Boxed W B t v) (hB : ¬ S B) : Boxed W' B t v := (h.block B hb.lt hB).trans hb
theorem bdrew {W : World} {B : Nat} {t : TypeId} {v : Value} (h : Boxed W B t v) : Boxed W.drew B t v := h
theorem BS.drew {S : Nat -> Prop} (W : World) : BS S W W.drew := BS.below ((Below.refl _ _).drew)
end Go.Proofs.YtdpohgoikbeplaaGreatDoor.Wt
namespace Go.Proofs.YtdpohgoikbeplaaGreatDoor.Wt
open Go.RowKit Go.Shelf
attribute [local go_sem] Oper.semAt_some
def gtos {l : List UInt8} (xs : List (Pl l)) : List Int := 0 :: xs.map fun x => (x.v.2 : Int)
theorem gtos_snoc {l : List UInt8} (xs : List (Pl l)) (x : Pl l) : gtos (xs ++ [x]) = gtos xs ++ [(x.v.2 : Int)] := by simp [gtos]
set_option maxHeartbeats 4000000 in
theorem gbounds_in (l : List UInt8) (L : List (Pl l)) (hL : L.map Pl.v = gpF l 0) (w : World) (ht : TbW w) (hl : l.length ≤ 100000000) (hne : l ≠ []) :
    CallsIn Fence.wide 3 Tryz.prog 13 #[.string ⟨l.toArray⟩] w fun e W' => ∃ v, e = .returned v ∧ W'.ownsRow w.heap.size 3 1 v (gtos L).length (i64s (gtos L)) ∧ Below w.heap.size w W' := by
  obtain ⟨i0, hi, hz0, hz1, hz2⟩ := info_parts Tryz.info3
  have HT := hid ht
  have HLL := hid hL
  have hpl : L.length ≤ l.length := by
    obtain ⟨L2, h1, h2⟩ := gp_all l _ 0 (Nat.le_refl _)
    have e := congrArg List.length (hL.trans h1.symm)
    rw [List.length_map, List.length_map] at e
    omega
  have he : l.isEmpty = false := by simpa using hne
  clear ht hne hL; refine callsIn_of_wp_marks Tryz.func13 rfl trivial ?_ rfl
  simp only [Tryz.ntmps13, List.size_toArray, List.length_cons, List.length_nil, Nat.reduceAdd, Nat.reduceSub, Array.replicate_succ, Array.replicate_zero, List.push_toArray, List.append_toArray, List.nil_append, List.cons_append]
  gi_wp2_with (refine ⟨trivial, ?_⟩; gi_at_call 25; refine (callsIn_wide.2 (geach_any l _)).mono ?_; rintro e w' ⟨rfl, rfl⟩)
  have hr0 : (w.alloc (.cells #[.int .i64 0] 3)).ownsRow w.heap.size 3 1 (.slice (some ⟨w.heap.size, 0, none⟩) 1 1) 1 (i64s (gtos ([] : List (Pl l)))) := World.ownsRow_lit w #[.int .i64 0] 1 (Nat.le_refl _) (by decide) (by simp)
  have bL := Boxed.new (w.alloc (.cells #[.int .i64 0] 3)) 23 (.slice (some ⟨w.heap.size, 0, none⟩) 1 1)
  rw [World.size_alloc] at bL
  have bS := Boxed.new ((w.alloc (.cells #[.int .i64 0] 3)).alloc (.cells #[.slice (some ⟨w.heap.size, 0, none⟩) 1 1] 23)) 9 (.string ⟨l.toArray⟩)
  rw [World.size_alloc, World.size_alloc] at bS
  have hB0 : Below w.heap.size w (((w.alloc (.cells #[.int .i64 0] 3)).alloc (.cells #[.slice (some ⟨w.heap.size, 0, none⟩) 1 1] 23)).alloc (.cells #[.string ⟨l.toArray⟩] 9)) := (((Below.refl _ _).alloc (Nat.le_refl _) _).alloc (by simp) _).alloc (by simp; omega) _
  have hEa : WaAt (w.heap.size + 1 + 1) l (((w.alloc (.cells #[.int .i64 0] 3)).alloc (.cells #[.slice (some ⟨w.heap.size, 0, none⟩) 1 1] 23)).alloc (.cells #[.string ⟨l.toArray⟩] 9)) := ⟨bS, HT.out.below hB0⟩
  have h2 := HT.out.two
  refine wpIn_rangeFunc_ownG rfl (by omega) (gf := 60) (lb := #[.pointer (some ⟨w.heap.size + 1 + 1, 0, none⟩)]) rfl trivial (enters_of Tryz.func60 (by kernel_rfl) rfl)
    (geach_stops (3 - 1) (by omega) (w.heap.size + 1 + 1) l L HLL.out _ hEa (by omega)) KrW_t (KrW_b hEa.lt) (Below.refl _ _) (fun _ => rfl)
    (fun pre W => ((∃ v, Boxed W (w.heap.size + 1) 23 v ∧ W.ownsRow w.heap.size 3 1 v (gtos pre).length (i64s (gtos pre)) ∧ True) ∧ Below w.heap.size w W) ∧ WaAt (w.heap.size + 1 + 1) l W)
    (fun _ _ _ => False)
    (OwnFrom.and (OwnFrom.and (Own.from (holdsRow_own w.heap.size (w.heap.size + 1) 23 3 1 (fun pre : List (Pl l) => (gtos pre).length) (fun pre => i64s (gtos pre)) (fun _ _ => True)) _) (ownFrom_below (Nat.le_refl _) (by simp; omega))) (waAt_from _ _ l (by simp)))
    (fun _ _ _ _ _ hs _ _ => hs)
    ⟨⟨⟨_, bL.alloc _, (hr0.alloc _).alloc _, trivial⟩, hB0⟩, hEa⟩
    (fun x => { tmps := #[.string ⟨l.toArray⟩, undef, .slice none 0 0, .pointer (some ⟨w.heap.size + 1, 0, none⟩), undef, .int .i64 (x.v.2 : Nat), .string ⟨l.toArray⟩, .bool false, .slice (some ⟨w.heap.size, 0, none⟩) 1 1, .string ⟨l.toArray⟩, .func (.func 60) #[] #[.pointer (some ⟨w.heap.size + 1 + 1, 0, none⟩)], .int .i64 (x.v.1 : Nat), .int .i64 (x.v.2 : Nat), undef, undef, undef, undef, undef], defers := [] }) ?assign ?body ?done ?stop
  case assign =>
    intro lp x W K hK
    dsimp only [encP]
    gi_wp2; exact hK
  case body =>
    rintro lp pre x W ⟨⟨⟨v, hv, hrow, _⟩, hB⟩, hE⟩ hlt
    have hc := hv.cell
    have hBs := hB.size
    have hwl : (gtos pre).length ≤ 100000001 := by have h : (gtos pre).length = pre.length + 1 := by simp [gtos]
                                                   omega
    gi_wp2_with (gi_at_builtin; refine wpListIn_append_own _ rfl _ _ 23 rfl w.heap.size 3 i0 (.int .i64 0) 1 8 Tryz.underlying23 hi hz0 hz1 hz2 rfl (by decide) _ _ _ rfl (hrow.alloc _) ⟨W.heap.size, 0, none⟩ 1 1 [.int .i64 (x.v.2 : Nat)] rfl rfl (cell_one_new _ _ _) (by simp [Value.oneCell']) (by unfold maxLen; omega) (by omega) (by simp; omega) ?_; intro v' w3 hown' hgrow _; obtain ⟨g', cap', rfl⟩ := ownsRow_succ hown'; obtain ⟨hv1, hv2, hr2, hk2, hb2⟩ := hv.appended (by decide) hrow hB.size (by omega) hown' hgrow; have hc1 := hv1.cell; have hf1 := hv1.frozen)
    have hS1 : Boxed w3 (w.heap.size + 1 + 1) 9 (.string ⟨l.toArray⟩) := (hE.bs.alloc _).kept hgrow (hE.bs.not_row (by decide) hrow)
    have hKK : ∀ k, KW (w.heap.size + 1 + 1) k → (w3.setCell ⟨w.heap.size + 1, 0, none⟩ (.slice (some ⟨g', 0, none⟩) ((gtos pre).length + 1) cap')).heap[k]? = W.heap[k]? := by
      rintro k (rfl | hk)
      · exact ((grownBy_setCell' w3 (w.heap.size + 1) _).block _ hS1.lt (by simp)).trans (Eq.trans hS1 hE.bs.symm)
      · exact hb2.block k (by omega)
    exact ⟨hk2.from _, ⟨⟨hk2.size, fun k o h hw => hk2.same k o h (Obj.not_cells_of_walk hw)⟩, hKK⟩, ⟨⟨_, hv2, by rw [gtos_snoc, i64s_snoc, List.length_append]; exact hr2, trivial⟩, hB.trans hb2⟩, hE.keeps hb2.size hKK⟩
  case done =>
    rintro D ys W hD rfl ⟨⟨⟨v, hv, hrow, _⟩, hB⟩, _⟩ hK
    have hc := hv.cell
    gi_wp2; refine ⟨by simp, .inl ⟨_, _, rfl, run_takeDeferred hK, ?_⟩⟩
    exact ⟨_, results_tmp rfl _ _ _, v, rfl, ownsRow_putObj hrow _ hK rfl, hB.trans (belowK_b (w := w) (Nat.le_refl _) W D _ _ (by simp at hD; omega) hK rfl rfl)⟩
  case stop =>
    rintro D c pre W _ _ h _
    exact h.elim
theorem gbounds_any (l : List UInt8) (L : List (Pl l)) (hL : L.map Pl.v = gpF l 0) (w : World) (ht : TbW w) (hl : l.length <= 100000000) (hne : l ≠ []) :
  Calls Tryz.prog 13 #[.string ⟨l.toArray⟩] w fun e W' => ∃ v, e = .returned v /\ W'.ownsRow w.heap.size 3 1 v (gtos L).length (i64s (gtos L)) /\ Below w.heap.size w W' := callsIn_wide.1 (gbounds_in l L hL w ht hl hne)
end Go.Proofs.YtdpohgoikbeplaaGreatDoor.Wt
namespace Go.Proofs.YtdpohgoikbeplaaGreatDoor.Wt
open Go.RowKit Go.Shelf
attribute [local go_sem] Oper.semAt_some
def gcnt (l : List UInt8) : Nat := (pcl gc (rl l)).length
theorem gp_cnt {l : List UInt8} {L : List (Pl l)} (h : L.map Pl.v = gpF l 0) : L.length = gcnt l := by
 have := congrArg List.length h
 rw [List.length_map] at this
 rw [this]
 unfold gpF gcnt
 rw [plc_len]; rfl
set_option maxHeartbeats 2000000 in
theorem gcount_in (l : List UInt8) (w : World) (ht : TbW w) (hl : l.length <= 100000000) :
  CallsIn Fence.wide 3 Tryz.prog 17 #[.string ⟨l.toArray⟩] w fun e W' => e = .returned (.int .i64 (gcnt l)) /\ Below w.heap.size w W' := by
 have HT := hid ht
 clear ht
 obtain ⟨L, hL, hLl⟩ := gp_all l _ 0 (Nat.le_refl _)
 have HL := hid hL
 have HC := hid (gp_cnt hL)
 have hll : L.length <= 100000000 := by omega
 clear hL hLl
 refine callsIn_of_wp_marks Tryz.func17 rfl trivial ?_ rfl
 simp only [Tryz.ntmps17, List.size_toArray, List.length_cons, List.length_nil, Nat.reduceAdd, Nat.reduceSub, Array.replicate_succ, Array.replicate_zero, List.push_toArray, List.append_toArray, List.nil_append, List.cons_append]
 gi_wp2_with (refine ⟨trivial, ?_⟩; gi_at_call 25; refine (callsIn_wide.2 (geach_any l _)).mono ?_; rintro e w' ⟨rfl, rfl⟩)
 have bC := (Boxed.new w 3 (.int .i64 0)).alloc (.cells #[.string ⟨l.toArray⟩] 9)
 have bS := Boxed.new (w.alloc (.cells #[.int .i64 0] 3)) 9 (.string ⟨l.toArray⟩)
 rw [World.size_alloc] at bS
 have hB0 : Below w.heap.size w ((w.alloc (.cells #[.int .i64 0] 3)).alloc (.cells #[.string ⟨l.toArray⟩] 9)) := ((Below.refl _ _).alloc (Nat.le_refl _) _).alloc (by simp) _
 have hEa : WaAt (w.heap.size + 1) l ((w.alloc (.cells #[.int .i64 0] 3)).alloc (.cells #[.string ⟨l.toArray⟩] 9)) := ⟨bS, HT.out.below hB0⟩
 have h2 := HT.out.two
 refine rfE (w.heap.size + 1) (fun k => k = w.heap.size) L (by omega) rfl HL.out hEa (by omega) rfl (fun k hk => by rw [hk]; rintro (h | h) <;> omega)
  (fun pre W => Boxed W w.heap.size 3 (.int .i64 (pre.length : Nat))) (fun _ _ _ => False) (Own.from (boxed_own _ _ (fun pre : List (Pl l) => Value.int .i64 (pre.length : Nat))) _) (fun _ _ _ _ _ hs _ _ => hs) bC
  (fun x => { tmps := #[.string ⟨l.toArray⟩, undef, .int .i64 0, .pointer (some ⟨w.heap.size, 0, none⟩), .string ⟨l.toArray⟩, .func (.func 60) #[] #[.pointer (some ⟨w.heap.size + 1, 0, none⟩)], .int .i64 (x.v.1 : Nat), .int .i64 (x.v.2 : Nat), undef, undef, undef], defers := [] }) ?assign ?body ?done ?stop
 case assign =>
  intro lp x W K hK
  dsimp only [encP]
  gi_wp2
  simpa using hK
 case body =>
  intro lp pre x W hv hb he hlt
  have hc := hv.cell
  have hf := hv.frozen
  gi_wp2; refine ⟨BS.set W _ _ rfl, ?_⟩
  have := hv.set (.int .i64 ((pre.length : Int) + 1))
  show Boxed _ _ _ _
  rw [List.length_append]; exact this
 case done =>
  intro D W hD hv hb hK
  have hc := hv.cell
  gi_wp2; refine ⟨by simp, .inl ⟨_, _, rfl, run_takeDeferred hK, ?_⟩⟩
  refine ⟨_, results_tmp rfl _ _ _, by rw [<- HC.out]; rfl, ?_⟩
  exact (hB0.trans (hb.lower w.heap.size (fun k hk => by omega) (by simp; omega))).trans (belowK_b (w := w) (Nat.le_refl _) W D _ _ (by simp at hD; omega) hK rfl rfl)
 case stop =>
  rintro D c pre W _ _ h _
  exact h.elim
theorem gcount_any (l : List UInt8) (w : World) (ht : TbW w) (hl : l.length <= 100000000) :
  Calls Tryz.prog 17 #[.string ⟨l.toArray⟩] w fun e W' => e = .returned (.int .i64 (gcnt l)) /\ Below w.heap.size w W' := callsIn_wide.1 (gcount_in l w ht hl)
end Go.Proofs.YtdpohgoikbeplaaGreatDoor.Wt
namespace Go.Proofs.YtdpohgoikbeplaaGreatDoor.Wt
open Go.RowKit
theorem glast_any (l : List UInt8) (w : World) (ht : TbW w) (hl : l.length <= 1000000000) :
  Calls Tryz.prog 74 #[.string ⟨l.toArray⟩] w fun e w' => e = .returned (.tuple #[.int .i64 (gplast l), .int .i64 (decLast l).2]) /\ Below w.heap.size w w' := by
 have HT := hid ht
 clear ht
 go_enter Tryz.func74, Tryz.ntmps74
 go_wp2_with fail
 refine (last_any l w (by omega) HT.out.tabs).mono ?_
 rintro e w1 ⟨rfl, be⟩
 have HB := hid be
 clear be
 obtain ⟨r, hr⟩ : ∃ r : Int, r = ((decLast l).1 : Int) := ⟨_, rfl⟩
 obtain ⟨n, hn⟩ : ∃ n : Nat, n = (decLast l).2 := ⟨_, rfl⟩
 have HN := hid hn
 have HV := hid (show gplast l = gpcls r by rw [hr]; rfl)
 rw [<- hr, <- hn]
 clear hr hn
 go_wp2_with fail
 refine (gpcls_any r w1).mono ?_
 rintro e w2 ⟨rfl, hw2⟩
 obtain rfl := hw2.symm
 clear hw2
 go_wp2
 go_ret2
 exact ⟨by rw [HV.out, <- HN.out]; rfl, HB.out⟩
def srN : List Int -> Int -> Nat
 | [], _ => 0
 | a :: R, b => if gbt a b = 0 then 0 else srN R a + 1
theorem srN_no (a b : Int) (R : List Int) (h : gbt a b ≠ 0) : srN (a :: R) b = srN R a + 1 := if_neg h
theorem srN_yes (a b : Int) (R : List Int) (h : gbt a b = 0) : srN (a :: R) b = 0 := if_pos h
def gsu (l : List UInt8) (k : Nat) : Nat := k - srN ((gcs l).take k).reverse (((gcs l).drop k).headD 3)
theorem take_rev (L : List Int) (j : Nat) (h : j < L.length) : (L.take (j + 1)).reverse = L[j] :: (L.take j).reverse := by
 rw [List.take_succ_eq_append_getElem h, List.reverse_append]; rfl
theorem last_pos (l : List UInt8) (j : Nat) (h : j < (rl l).length) : decLast (l.take (pos l (j + 1))) = (rl l)[j] := by
 have h1 := rl_take l (j + 1) h
 have hp : 0 < pos l (j + 1) := by have := pos_lt l j h; omega
 have hle := pos_le l (j + 1) h
 have hne : l.take (pos l (j + 1)) ≠ [] := fun e => by
  have := congrArg List.length e
  rw [List.length_take] at this
  simp only [List.length_nil] at this
  omega
 rw [rl_snoc _ hne, List.take_succ_eq_append_getElem h] at h1
 have := List.append_inj_right' h1 rfl
 exact (List.cons.inj this).1
theorem pos_back (l : List UInt8) (j : Nat) (h : j < (rl l).length) : pos l (j + 1) = pos l j + ((rl l)[j]).2 := psm_take _ j h
set_option maxHeartbeats 2000000 in
theorem gsure_any (l : List UInt8) (k p : Nat) (w : World) (ht : TbW w) (hl : l.length <= 1000000000) (hk : k <= (rl l).length) (hp : p = pos l k) :
  Calls Tryz.prog 58 #[.string ⟨l.toArray⟩, .int .i64 p] w fun e w' => e = .returned (.int .i64 (pos l (gsu l k))) /\ Below w.heap.size w w' := by
 have HT := hid ht
 have HP := hid hp
 have HK := hid hk
 have hpl : p <= l.length := by rw [hp]; exact pos_le l k hk
 have HS := hid (show gstep l p = (((gcs l).drop k).headD 3, pos l (k + 1)) by rw [hp]; exact gstep_pos l k hk)
 obtain ⟨b, hb⟩ : ∃ b, b = ((gcs l).drop k).headD 3 := ⟨_, rfl⟩
 obtain ⟨q, hq⟩ : ∃ q, q = pos l (k + 1) := ⟨_, rfl⟩
 have HG := hid (show gsu l k = k - srN ((gcs l).take k).reverse b by rw [hb]; rfl)
 rw [<- hb, <- hq] at HS
 clear ht hp hk hb hq
 go_enter Tryz.func58, Tryz.ntmps58
 go_wp2_with fail
 refine (gstep_any l p w HT.out hl hpl).mono ?_
 rintro e w1 ⟨rfl, be⟩
 have HB := hid be
 rw [HS.out]
 simp only []
 clear be HS
 go_wp2
 go_loopw [1, 5] (fun v c wr => ∃ (j r : Nat) (d : Int), v = .int .i64 r /\ c = .int .i64 d /\ r <= l.length /\ Hid (r = pos l j) /\ Hid (j <= (rl l).length) /\ Hid (gsu l k = j - srN ((gcs l).take j).reverse d) /\ Below w.heap.size w wr) (fun v _ _ => (intOf v).toNat)
 case atStart => exact ⟨k, p, b, rfl, rfl, hpl, HP, HK, HG, HB.out⟩
 case round =>
  obtain ⟨j, r, d, rfl, rfl, hr, HR, HJ, HG1, hBr⟩ := hrel
  have HB1 := hid hBr
  clear hBr HG
  by_cases h0 : 0 < r
  ·have h0i : (0 : Int) < (r : Int) := by omega
   obtain ⟨i, hi⟩ : ∃ i, j = i + 1 := ⟨j - 1, by
    have h1 := HR.out
    rcases Nat.eq_zero_or_pos j with h2 | h2
    ·rw [h2, pos_0] at h1; omega
    ·omega⟩
   subst hi; have hil : i < (rl l).length := HJ.out
   have HLP := hid (show decLast (l.take r) = (rl l)[i] by rw [HR.out]; exact last_pos l i hil)
   have hpb := pos_back l i hil
   rw [<- HR.out] at hpb
   have HTL := hid (show (l.take r).length <= 1000000000 by rw [List.length_take]; omega)
   obtain ⟨a, ha⟩ : ∃ a, a = gplast (l.take r) := ⟨_, rfl⟩
   obtain ⟨m, hm⟩ : ∃ m : Nat, m = (decLast (l.take r)).2 := ⟨_, rfl⟩
   have hgi : i < (gcs l).length := by rw [gcs_len]; exact hil
   have HA := hid (show (gcs l)[i] = a by rw [ha]; unfold gplast; rw [HLP.out]; simp [gcs, gc])
   have hmr : r = pos l i + m := by rw [hm, HLP.out]; exact hpb
   have hmp : 0 < m := by rw [hm, HLP.out]; exact rl_pos _ l (Nat.le_refl _) _ (List.getElem_mem hil)
   have HTR := hid (take_rev (gcs l) i hgi)
   rw [HA.out] at HTR
   have HMR := hid hmr
   have HIL := hid hil
   have hmr2 : m <= r := by omega
   clear hpb hgi hmr hil HA HLP
   go_wp2_with fail
   rw [wtake]; refine (glast_any (l.take r) wr (HT.out.below HB1.out) HTL.out).mono ?_
   rintro e w2 ⟨rfl, be⟩; have HB2 := hid (HB1.out.trans (be.mono HB1.out.size))
   rw [<- ha, <- hm]; clear be ha hm
   go_wp2_with fail
   refine (gbt_any a d w2).mono ?_
   rintro e w3 ⟨rfl, hw3⟩; obtain rfl := hw3.symm
   clear hw3
   by_cases hg : gbt a d = 0
   ·have HF := hid (show gsu l k = i + 1 by rw [HG1.out, HTR.out, srN_yes _ _ _ hg]; rfl)
    have hgb : (gbt a d == 0) = true := by rw [hg]; rfl
    clear hg
    go_wp2
    go_ret; exact ⟨by rw [HF.out, <- HR.out]; rfl, HB2.out⟩
   ·have hgb : (gbt a d == 0) = false := beq_eq_false_iff_ne.2 hg
    have HF := hid (show gsu l k = i - srN ((gcs l).take i).reverse a by rw [HG1.out, HTR.out, srN_no _ _ _ hg]; omega)
    clear hg
    go_wp2
    go_roundw
    case rel => exact ⟨i, r - m, a, by rw [Int.ofNat_sub hmr2], rfl, by omega, by show r - m = pos l i; have := HMR.out; omega, by show i <= _; have := HIL.out; omega, HF, HB2.out⟩
    case measure => simp [intOf]; omega
  ·obtain rfl : r = 0 := by omega
   have HF := hid (show pos l (gsu l k) = 0 by
    have h1 := HR.out
    have hj : j = 0 := by
     rcases Nat.eq_zero_or_pos j with h2 | h2
     ·exact h2
     ·obtain ⟨i, rfl⟩ : ∃ i, j = i + 1 := ⟨j - 1, by omega⟩
      have := pos_lt l i HJ.out
      omega
    rw [HG1.out, hj, Nat.zero_sub, pos_0])
   go_wp2
   go_ret; exact ⟨by rw [HF.out]; rfl, HB1.out⟩
end Go.Proofs.YtdpohgoikbeplaaGreatDoor.Wt
namespace Go.Proofs.YtdpohgoikbeplaaGreatDoor.Wt
theorem gsu_le (l : List UInt8) (k : Nat) : gsu l k <= k := Nat.sub_le _ _
theorem sure_is (L : List Int) : ∀ k, k <= L.length -> (k - srN (L.take k).reverse ((L.drop k).headD 3) = 0 \/ gbt ((L.take (k - srN (L.take k).reverse ((L.drop k).headD 3))).getLastD 0) ((L.drop (k - srN (L.take k).reverse ((L.drop k).headD 3))).headD 3) = 0)
 | 0, _ => .inl (Nat.zero_sub _)
 | k + 1, h => by
  have hk : k < L.length := h
  have hd : (L.drop k).headD 3 = L[k] := by rw [List.drop_eq_getElem_cons hk]; rfl
  rw [take_rev L k hk]
  by_cases hg : gbt L[k] ((L.drop (k + 1)).headD 3) = 0
  ·right
   have e : (L.take (k + 1)).getLastD 0 = L[k] := by rw [List.take_succ_eq_append_getElem hk, List.getLastD_eq_getLast?, List.getLast?_append]; rfl
   rw [srN_yes _ _ _ hg, Nat.sub_zero, e]; exact hg
  ·rw [srN_no _ _ _ hg, Nat.succ_sub_succ]
   have := sure_is L k (Nat.le_of_lt hk)
   rw [hd] at this
   exact this
theorem gsu_sure (l : List UInt8) (k : Nat) (h : k <= (rl l).length) : gsu l k = 0 \/ gbt (((gcs l).take (gsu l k)).getLastD 0) (((gcs l).drop (gsu l k)).headD 3) = 0 := sure_is (gcs l) k (by rw [gcs_len]; exact h)
theorem pcl_gsu (l : List UInt8) (k : Nat) (h : k < (rl l).length) : pcl gc (rl l) = pcl gc ((rl l).take (gsu l k)) ++ pcl gc ((rl l).drop (gsu l k)) := by
 have hle := gsu_le l k
 rcases gsu_sure l k (Nat.le_of_lt h) with h0 | h0
 ·rw [h0]; rfl
 ·rcases Nat.eq_zero_or_pos (gsu l k) with hz | hz
  ·rw [hz]; rfl
  ·have hlt : gsu l k < (rl l).length := by omega
   have hlt2 : gsu l k < (gcs l).length := by rw [gcs_len]; exact hlt
   have hs := pcl_sure gc gc_cl _ ((rl l).take (gsu l k)) ((rl l)[gsu l k]) ((rl l).drop (gsu l k + 1)) (Nat.le_refl _) (fun e => by
    have := congrArg List.length e
    rw [List.length_take] at this
    simp only [List.length_nil] at this
    omega) (by
    rw [List.drop_eq_getElem_cons hlt2, List.headD_cons] at h0
    rw [List.map_take]; have e : (gcs l)[gsu l k] = gc (rl l)[gsu l k] := by simp [gcs]
    rw [e] at h0
    exact h0)
   rw [<- List.drop_eq_getElem_cons hlt, List.take_append_drop] at hs
   exact hs
theorem gpF_0 (l : List UInt8) : gpF l 0 = plc 0 (pcl gc (rl l)) := rfl
theorem gp_split (l : List UInt8) (k : Nat) (h : k < (rl l).length) : gpF l 0 = plc 0 (pcl gc ((rl l).take (gsu l k))) ++ gpF l (pos l (gsu l k)) := by
 have hle := gsu_le l k
 rw [gpF_0, pcl_gsu l k h, plc_app, pcl_all gc _ _ (Nat.le_refl _), Nat.zero_add]
 unfold gpF
 rw [rl_drop l _ (by omega)]
 rfl
theorem plc_shift : ∀ (M : List (List (Nat × Nat))) (q b : Nat), plc (b + q) M = (plc q M).map fun x => (b + x.1, b + x.2)
 | [], _, _ => rfl
 | z :: M, q, b => by rw [plc, plc, List.map_cons, Nat.add_assoc, plc_shift M (q + psm z) b]
theorem gp_shift (l : List UInt8) (b : Nat) : gpF l b = (gpF (l.drop b) 0).map fun x => (b + x.1, b + x.2) := by
 have := plc_shift (pcl gc (rl (l.drop b))) 0 b
 rw [Nat.add_zero] at this
 exact this
theorem plc_last : ∀ (M : List (List (Nat × Nat))) (q : Nat), M ≠ [] -> ∃ y ∈ plc q M, y.2 = q + psm M.flatten
 | [x], q, _ => ⟨(q, q + psm x), by simp [plc], by simp⟩
 | x :: z :: M, q, _ => by
  obtain ⟨y, hy, he⟩ := plc_last (z :: M) (q + psm x) (by simp)
  refine ⟨y, by rw [plc]; exact List.mem_cons_of_mem _ hy, ?_⟩
  rw [he, List.flatten_cons (l := x), psm_app, Nat.add_assoc]
theorem gp_last (l : List UInt8) (h : l ≠ []) : ∃ y ∈ gpF l 0, y.2 = l.length := by
 have hrn : rl l ≠ [] := by rw [rl_cons l h]; simp
 obtain ⟨y, hy, he⟩ := plc_last (pcl gc (rl l)) 0 (by rw [pcl_cons gc _ hrn]; simp)
 refine ⟨y, hy, ?_⟩
 rw [he, pcl_all gc _ _ (Nat.le_refl _), rl_sum _ l (Nat.le_refl _), Nat.zero_add]
theorem rune_at (l : List UInt8) (p : Nat) (h : p < l.length) : ∃ k, k < (rl l).length /\ pos l k <= p /\ p < pos l (k + 1) := by
 have key : ∀ n, n <= (rl l).length -> p < pos l n -> ∃ k, k < n /\ pos l k <= p /\ p < pos l (k + 1) := by
  intro n
  induction n with
  | zero => intro _ h1; rw [pos_0] at h1; omega
  | succ n ih =>
   intro hn h1
   rcases Nat.lt_or_ge p (pos l n) with h2 | h2
   ·obtain ⟨k, k1, k2⟩ := ih (by omega) h2
    exact ⟨k, by omega, k2⟩
   ·exact ⟨n, by omega, h2, h1⟩
 exact key _ (Nat.le_refl _) (by rw [pos_all l _ (Nat.le_refl _)]; exact h)
theorem back_rune (l : List UInt8) (p k : Nat) (h : k < (rl l).length) (h1 : pos l k <= p) (h2 : p < pos l (k + 1)) : backE l ((p : Int) + 1) = (pos l k : Nat) := by
 have hle := pos_le l (k + 1) h
 obtain ⟨P, hP⟩ := mks_pos l k (Nat.le_of_lt h)
 rw [mks_at l _ (pos_end l k h)] at hP
 have e : pos l k + wid l (pos l k) = pos l (k + 1) := pos_step l k h
 unfold backE
 rw [if_neg (by omega), if_neg (by omega), show ((p : Int) + 1).toNat - 1 = p by omega, begin_is l p (pos l k) P (by omega) h1 (by omega) hP]
theorem pos_leq (l : List UInt8) (i j : Nat) (h : i <= j) (hj : j <= (rl l).length) : pos l i <= pos l j := by
 have := pos_mono l (j - i) i (by omega)
 rw [show i + (j - i) = j by omega] at this
 omega
end Go.Proofs.YtdpohgoikbeplaaGreatDoor.Wt
namespace Go.Proofs.YtdpohgoikbeplaaGreatDoor.Wt
def bkR (l : List UInt8) (k : Nat) : List (Nat × Nat) := (plc 0 (pcl gc ((rl l).take k))).reverse
theorem bkR_0 (l : List UInt8) : bkR l 0 = [] := rfl
theorem bkR_all (l : List UInt8) : bkR l (rl l).length = (gpF l 0).reverse := by
 unfold bkR
 rw [List.take_length]; rfl
theorem bk_step (l : List UInt8) (k : Nat) (h : k < (rl l).length) :
  bkR l (k + 1) = ((gpF ((l.take (pos l (k + 1))).drop (pos l (gsu l k))) 0).map fun x => (pos l (gsu l k) + x.1, pos l (gsu l k) + x.2)).reverse ++ bkR l (gsu l k) := by
 have hle := gsu_le l k
 have hlt : gsu l k < (rl l).length := by omega
 have hT : ((rl l).take (k + 1)).take (gsu l k) = (rl l).take (gsu l k) := by rw [List.take_take, Nat.min_eq_left (by omega)]
 have hp : pcl gc ((rl l).take (k + 1)) = pcl gc ((rl l).take (gsu l k)) ++ pcl gc (((rl l).take (k + 1)).drop (gsu l k)) := by
  rcases Nat.eq_zero_or_pos (gsu l k) with hz | hz
  ·rw [hz]; rfl
  ·have hs : gbt (((gcs l).take (gsu l k)).getLastD 0) (((gcs l).drop (gsu l k)).headD 3) = 0 := by
    rcases gsu_sure l k (Nat.le_of_lt h) with h0 | h0
    ·omega
    ·exact h0
   have hlt2 : gsu l k < (gcs l).length := by rw [gcs_len]; exact hlt
   have hlt3 : gsu l k < ((rl l).take (k + 1)).length := by rw [List.length_take]; omega
   rw [List.drop_eq_getElem_cons hlt2, List.headD_cons] at hs
   have e : (gcs l)[gsu l k] = gc (((rl l).take (k + 1))[gsu l k]) := by simp [gcs]
   rw [e] at hs
   have hq := pcl_sure gc gc_cl _ ((rl l).take (gsu l k)) (((rl l).take (k + 1))[gsu l k]) (((rl l).take (k + 1)).drop (gsu l k + 1)) (Nat.le_refl _) (fun e0 => by
    have := congrArg List.length e0
    rw [List.length_take] at this
    simp only [List.length_nil] at this
    omega) (by rw [List.map_take]; exact hs)
   rw [<- List.drop_eq_getElem_cons hlt3, <- hT, List.take_append_drop, hT] at hq
   exact hq
 have hr : rl ((l.take (pos l (k + 1))).drop (pos l (gsu l k))) = ((rl l).take (k + 1)).drop (gsu l k) := rl_piece l _ _ (by omega) h
 unfold bkR
 rw [hp, plc_app, pcl_all gc _ _ (Nat.le_refl _), Nat.zero_add, List.reverse_append, gpF_0, hr]
 have e : psm ((rl l).take (gsu l k)) = pos l (gsu l k) := rfl
 rw [e, <- plc_shift (pcl gc (((rl l).take (k + 1)).drop (gsu l k))) 0 (pos l (gsu l k)), Nat.add_zero]; rfl
theorem plc_chain : ∀ (M : List (List (Nat × Nat))) (q i : Nat) (h : i < (plc q M).length), ((plc q M)[i]).1 = (q :: (plc q M).map (·.2))[i]'(by rw [List.length_cons, List.length_map]; omega)
 | [], q, i, h => by simp [plc] at h
 | x :: M, q, 0, h => rfl
 | x :: M, q, i + 1, h => by
  have ih := plc_chain M (q + psm x) i (by rw [plc, List.length_cons] at h; omega)
  simp only [plc, List.getElem_cons_succ, List.map_cons]
  exact ih
theorem seg_pos (l : List UInt8) (k : Nat) (h : k < (rl l).length) : pos l (gsu l k) < pos l (k + 1) := by
 have h1 := pos_leq l (gsu l k) k (gsu_le l k) (Nat.le_of_lt h)
 have h2 := pos_lt l k h
 omega
end Go.Proofs.YtdpohgoikbeplaaGreatDoor.Wt
namespace Go.Proofs.YtdpohgoikbeplaaGreatDoor.Br
open Wt
theorem gp_chn (l : List UInt8) : ∀ (n p : Nat), l.length - p <= n -> p <= l.length -> Chn p l.length (gpF l p)
 | n, p, hn, hp => by
  by_cases h : p < l.length
  ·have h1 := gst l p h
   cases n with
   | zero => omega
   | succ n =>
    rw [gp_step l p h]; exact .cons h1.1 (gp_chn l n _ (by omega) h1.2)
  ·rw [gp_end l p h]
   obtain rfl : p = l.length := by omega
   exact .nil _
theorem gp_ch0 (l : List UInt8) : Chn 0 l.length (gpF l 0) := gp_chn l _ 0 (Nat.le_refl _) (Nat.zero_le _)
end Go.Proofs.YtdpohgoikbeplaaGreatDoor.Br
