/- The contract of Load (package table). -/
import Derived.Test.YtljlhlcoaajggaaLoad0
namespace Go.Proofs.Ytljlhlcoaajggaa
open Go.RowKit

theorem rdu_own {B n cap : Nat} {ao : Option Addr} {U : List Nat} {w : World} (h : w.ownsRow B 5 1 (.slice ao n cap) n (u8n U)) : RdU w ao U := by
  intro k c hk
  have hn : U.length = n := by have := h.1; rw [u8n_len] at this; omega
  have hkl := (List.getElem?_eq_some_iff.1 hk).1
  rcases h.2 with ⟨h', h0⟩ | ⟨q, cap', cur, h', hb, hg, hnc, hcm, hcs, htk⟩
  · omega
  · simp only [Value.slice.injEq, true_and] at h'
    obtain ⟨rfl, rfl⟩ := h'
    refine ⟨_, rfl, (h.lt q rfl).2, ?_⟩
    rw [Addr.add_lit, Nat.zero_add, h.cellAt _ (by omega)]
    unfold u8n
    rw [List.getElem?_map, hk]; rfl
theorem RdU.below {w w' : World} {ao : Option Addr} {l : List Nat} (h : RdU w ao l) (hb : Below w.heap.size w w') : RdU w' ao l := fun k c hk => by
  obtain ⟨a, h1, h2, h3⟩ := h k c hk
  exact ⟨a, h1, Nat.lt_of_lt_of_le h2 hb.size, (hb.cell (p := a.add k) (by rw [add_blk]; exact h2)).trans h3⟩
theorem enb_256 (r : Nat) (L : List Tr) (hr : r < 256) (hR : Ris 0 L) : ∀ c ∈ enb r L, c < 256 := by
  have hv : ∀ n, ∀ c ∈ vn n, c < 256 := by
    intro n
    induction n using Nat.strongRecOn with
    | _ n ih =>
      intro c hc
      by_cases h : 128 ≤ n
      · rw [vn_more n h] at hc
        rcases List.mem_cons.1 hc with rfl | hc
        · omega
        · exact ih (n / 128) (by omega) c hc
      · rw [vn_last n h] at hc
        simp at hc; omega
  have hl : ∀ (A : List Tr) (b : Nat), Ris b A → ∀ c ∈ enL b A, c < 256 := by
    intro A
    induction A with
    | nil => intro b _ c hc; cases hc
    | cons g A ih =>
      intro b h c hc
      obtain ⟨h1, h2, h3, h4, h5⟩ := h
      unfold enL at hc
      rcases List.mem_append.1 hc with hc | hc
      · exact hv _ c hc
      · rcases List.mem_append.1 hc with hc | hc
        · exact hv _ c hc
        · rcases List.mem_cons.1 hc with rfl | hc
          · exact h4
          · exact ih _ h5 c hc
  intro c hc
  unfold enb at hc
  rcases List.mem_cons.1 hc with rfl | hc
  · exact hr
  · rcases List.mem_append.1 hc with hc | hc
    · exact hv _ c hc
    · exact hl L 0 hR c hc
theorem clA_256 (r : Nat) (L : List Tr) (hr : r < 256) (hR : Ris 0 L) : ∀ c ∈ clA r L, c < 256 := by
  have hl : ∀ (A : List Tr) (b : Nat), Ris b A → ∀ c ∈ clq r b A, c < 256 := by
    intro A
    induction A with
    | nil => intro b _ c hc; cases hc
    | cons g A ih =>
      intro b h c hc
      obtain ⟨h1, h2, h3, h4, h5⟩ := h
      unfold clq at hc
      rcases List.mem_append.1 hc with hc | hc
      · rw [List.eq_of_mem_replicate hc]; exact hr
      · rcases List.mem_append.1 hc with hc | hc
        · rw [List.eq_of_mem_replicate hc]; exact h4
        · exact ih _ h5 c hc
  intro c hc
  unfold clA at hc
  rcases List.mem_append.1 hc with hc | hc
  · exact hl L 0 hR c hc
  · rw [List.eq_of_mem_replicate hc]; exact hr
theorem ldl_step {f nx : Nat} {b : List Nat} (hb : b ≠ []) : ldl (f + 1) nx b = if 1114111 < nx + (rdn b).1 + (rdn (rdn b).2).1 then none else (ldl f (nx + (rdn b).1 + (rdn (rdn b).2).1 + 1) (rdn (rdn b).2).2.tail).map ((nx + (rdn b).1, nx + (rdn b).1 + (rdn (rdn b).2).1, (rdn (rdn b).2).2.headD 0) :: ·) := by
  show (if b = [] then _ else _) = _
  rw [if_neg hb]
theorem headD_256 (b : List Nat) (h8 : ∀ c ∈ b, c < 256) : b.headD 0 < 256 := by
  cases b with
  | nil => decide
  | cons c l => exact h8 c (by simp)

set_option maxHeartbeats 6000000 in
set_option maxRecDepth 100000 in
theorem load_any (ao : Option Addr) (ac : Nat) (b : List Nat) (w : World) (hb : RdU w ao b) (h8 : ∀ c ∈ b, c < 256) (hac : b.length ≤ ac) (hl : b.length ≤ 100000000) (hna : ao = none → ac = 0) :
    Calls Try.prog 28 #[.slice ao b.length ac] w fun e w' => Below w.heap.size w w' ∧
      ((lds b = none ∧ e = .returned (.tuple #[.pointer none, .int .i64 31])) ∨
       (∃ T F L, lds b = some L ∧ e = .returned (.tuple #[.pointer (some ⟨T, 0, none⟩), .int .i64 0]) ∧ w.heap.size ≤ T ∧ F.flatten = clA (ldr b) L ∧ Ris 0 L ∧ TbAt w.heap.size T F (ldr b) w')) := by
  obtain ⟨i0, hi36, hz0, hz1, hz2⟩ := info_parts Try.info36
  have HRB := hid hb
  have H8 := hid h8
  obtain ⟨X, hX⟩ : ∃ X, X = w.heap.size := ⟨_, rfl⟩
  have HXE := hid hX
  have HX0 := hid (show XAt X (.slice ao b.length ac) (w.alloc (.cells #[.slice ao b.length ac] 93)) by rw [hX]; exact heap_alloc_new w _)
  have HB0 := hid (show Below X w (w.alloc (.cells #[.slice ao b.length ac] 93)) by rw [hX]; exact (Below.refl _ _).alloc (Nat.le_refl _) _)
  have HRA := hid (show ∀ W, Below X w W → RdU W ao b from fun W hW => hb.below (by rw [← hX]; exact hW))
  have HC := hid (class_x X ao ac b _ HX0.out (HRA.out _ HB0.out) h8 hac (by omega))
  have HSZ := hid (show X < (w.alloc (.cells #[.slice ao b.length ac] 93)).heap.size by rw [hX]; simp)
  rw [← hX]
  clear hb h8
  go_enter Try.func28, Try.ntmps28
  go_wp2_with fail
  rw [← hX]
  clear hX
  refine HC.out.mono ?_
  rintro e w1 ⟨rfl, ro1, rc1, x1, t1, l1, s1⟩
  have HX1 := hid x1
  have HB1 := hid (s1.below HB0.out)
  have HT1 := hid t1
  have hs1 : X < w1.heap.size := by rw [s1.size]; exact HSZ.out
  have HL1 := hid l1
  have H81 := hid (show ∀ c ∈ b.tail, c < 256 from fun c hc => H8.out c (List.mem_of_mem_tail hc))
  have HN1 := hid (readN_x X ro1 rc1 b.tail w1 HX1.out (HT1.out _ (HRA.out _ HB1.out)) H81.out HL1.out (by rw [List.length_tail]; omega))
  have HR0 := hid (headD_256 b H8.out)
  obtain ⟨r0, hr0⟩ : ∃ r0, r0 = b.headD 0 := ⟨_, rfl⟩
  rw [← hr0] at HR0 ⊢
  have HRR := hid (show ldr b = r0 from hr0.symm)
  have hr0l := HR0.out
  clear x1 t1 l1 s1 HC hr0
  go_wp2_with fail
  refine HN1.out.mono ?_
  rintro e w2 ⟨rfl, ro2, rc2, x2, t2, l2, s2⟩
  have HX2 := hid x2
  have HB2 := hid (s2.below HB1.out)
  have HT2 := hid (show ∀ W, RdU W ao b → RdU W ro2 (rdn b.tail).2 from fun W hW => t2 W (HT1.out W hW))
  have hs2 : X < w2.heap.size := by rw [s2.size]; exact hs1
  have HL2 := hid l2
  have H82 := hid (show ∀ c ∈ (rdn b.tail).2, c < 256 from fun c hc => H81.out c (rdn_mem _ c hc))
  have hlen : (rdn b.tail).2.length ≤ 100000000 := by have h5 := (rdn_len b.tail).1; rw [List.length_tail] at h5; omega
  have HLD := hid (show ldR b = ldl (rdn b.tail).2.length 0 (rdn b.tail).2 from rfl)
  obtain ⟨b2, hb2⟩ : ∃ b2, b2 = (rdn b.tail).2 := ⟨_, rfl⟩
  obtain ⟨nm, hnm⟩ : ∃ nm, nm = (rdn b.tail).1 := ⟨_, rfl⟩
  rw [← hb2] at HX2 HT2 HL2 H82 hlen HLD
  rw [← hnm]
  clear x2 t2 l2 s2 HN1 hb2 hnm
  go_wp2
  go_loopw [6, 7] (fun x y wr => ∃ (i nx : Nat) (L : List Tr) (c : List Nat) (v : Value) (ro : Option Addr) (rc : Nat), x = v ∧ y = .int .i64 (nx : Int) ∧ nx ≤ 1114112 ∧ i + c.length ≤ b2.length ∧ Hid (L.length = i) ∧ Hid (Ris 0 L) ∧ Hid (endR 0 L ≤ nx) ∧ Hid ((ldl c.length nx c).map (L ++ ·) = ldR b) ∧ Hid (wr.ownsRow (X + 1) 36 3 v L.length (rks L)) ∧ Hid (XAt X (.slice ro c.length rc) wr) ∧ Hid (∀ W, RdU W ao b → RdU W ro c) ∧ Hid (c.length ≤ rc) ∧ Hid (∀ d ∈ c, d < 256) ∧ Hid (Below X w wr) ∧ Hid (X < wr.heap.size)) (fun _ _ wr => match wr.cell? ⟨X, 0, none⟩ with | some (.slice _ n _) => n | _ => 0)
  case atStart => exact ⟨0, 0, [], b2, _, ro2, rc2, rfl, rfl, by omega, by omega, rfl, trivial, Nat.le_refl _, by rw [HLD.out]; simp [Hid], World.ownsRow_nil w2 (X + 1) 36 3, HX2, HT2, HL2, H82, HB2, hs2⟩
  case round =>
    obtain ⟨i, nx, L, c, v, ro, rc, hv, rfl, hnx, hic, HLI, HRI, HEN, HLD2, HOL, HXC, HTC, HLC, H8C, HBC, HSC⟩ := hrel
    obtain rfl := hv.symm
    have xc := HXC.out.cell
    have hsc := HSC.out
    have hwX : X + 1 ≤ wr.heap.size := hsc
    by_cases hcn : c = []
    · subst hcn
      have HLF := hid (show ldR b = some L by rw [← HLD2.out]; simp [ldl])
      obtain ⟨vo, vc, rfl⟩ := own_form HOL.out
      have HLL := hid (show L.length ≤ 100000000 by have h5 := HLI.out; simp at hic; omega)
      have HM := hid (made_any vo vc L r0 wr (rd_own HOL.out) HLL.out hr0l HRI.out)
      have hBL : (X : Nat) ≤ wr.heap.size := by omega
      obtain ⟨n, hn⟩ : ∃ n, n = L.length := ⟨_, rfl⟩
      rw [← hn] at HM ⊢
      have xc' : wr.cell? ⟨X, 0, none⟩ = some (.slice ro 0 rc) := xc
      clear xc hn HLD2
      go_wp2_with fail
      refine HM.out.mono ?_
      rintro e w5 ⟨rfl, ⟨bv, hd⟩, hb5⟩
      obtain ⟨F, hF, hT⟩ := tb_of_mk hd (clA_len r0 L HRI.out)
      have HF := hid hF
      have HT := hid hT
      have HB5 := hid (HBC.out.trans (hb5.mono hBL))
      have HBY := hid (bytes_any _ _ r0 F w5 hT hr0l)
      rw [hF] at HBY
      have hs5 := hb5.size
      clear hd hb5 hF hT HM xc'
      go_wp2_with fail
      refine HBY.out.mono ?_
      rintro e w6 ⟨v6, rfl, o6, b6⟩
      obtain ⟨yo, yc, rfl⟩ := own_form o6
      have HB6 := hid (HB5.out.trans (b6.mono (by omega)))
      have HT6 := hid ((HT.out.below b6).mono hBL)
      have hyn : yo = none → yc = 0 := by
        intro e
        subst e
        rcases o6.2 with ⟨h5, _⟩ | ⟨_, _, _, h5, _⟩
        · cases h5
        · cases h5
      have HRX := hid (rgs_ris r0 (clA r0 L) (clA_len r0 L HRI.out) (clA_256 r0 L hr0l HRI.out))
      have HEQ := hid (bequal_any yo ao yc ac (enb r0 (rgs r0 (clA r0 L))) b w6 (rdu_own o6) (HRA.out w6 HB6.out) (enb_256 r0 _ hr0l HRX.out) H8.out hyn hna)
      obtain ⟨yl, hyl⟩ : ∃ yl, yl = (enb r0 (rgs r0 (clA r0 L))).length := ⟨_, rfl⟩
      obtain ⟨bl, hbl⟩ : ∃ bl, bl = b.length := ⟨_, rfl⟩
      rw [← hyl, ← hbl] at HEQ
      rw [← hyl]
      try rw [← hbl]
      by_cases hq : enb r0 (rgs r0 (clA r0 L)) = b
      · rw [decide_eq_true hq] at HEQ
        have HLS := hid (show lds b = some L by unfold lds; rw [HLF.out]; dsimp only; rw [HRR.out, if_pos hq])
        clear hq o6 b6 HBY hyl hbl
        go_wp2_with fail
        refine HEQ.out.mono ?_
        rintro e w7 ⟨rfl, h7⟩
        obtain rfl := h7.symm
        clear HEQ
        go_wp2
        go_ret2
        exact ⟨HB6.out, .inr ⟨_, F, L, HLS.out, rfl, hBL, by rw [HRR.out]; exact HF.out, HRI.out, by rw [HRR.out]; exact HT6.out⟩⟩
      · rw [decide_eq_false hq] at HEQ
        have HLS := hid (show lds b = none by unfold lds; rw [HLF.out]; dsimp only; rw [HRR.out, if_neg hq])
        clear hq o6 b6 HBY hyl hbl
        go_wp2_with fail
        refine HEQ.out.mono ?_
        rintro e w7 ⟨rfl, h7⟩
        obtain rfl := h7.symm
        clear HEQ
        go_wp2
        go_ret2
        exact ⟨HB6.out, .inl ⟨HLS.out, rfl⟩⟩
    · have hcl : 0 < c.length := List.length_pos_iff.2 hcn
      have HN3 := hid (readN_x X ro rc c wr HXC.out (HTC.out _ (HRA.out _ HBC.out)) H8C.out HLC.out (by omega))
      have hd1 := rdn_lt c H8C.out
      have a1 := (rdn_len c).2 hcn
      have a2 := (rdn_len (rdn c).2).1
      have a3 : (rdn (rdn c).2).2.tail.length ≤ (rdn (rdn c).2).2.length := by rw [List.length_tail]; omega
      have H83 := hid (show ∀ d ∈ (rdn c).2, d < 256 from fun d hd => H8C.out d (rdn_mem _ d hd))
      have H84 := hid (show ∀ d ∈ (rdn (rdn c).2).2, d < 256 from fun d hd => H83.out d (rdn_mem _ d hd))
      have H85 := hid (show ∀ d ∈ (rdn (rdn c).2).2.tail, d < 256 from fun d hd => H84.out d (List.mem_of_mem_tail hd))
      have hd2 := rdn_lt (rdn c).2 H83.out
      have hd3 := headD_256 (rdn (rdn c).2).2 H84.out
      have HST := hid (show ldl c.length nx c = if 1114111 < nx + (rdn c).1 + (rdn (rdn c).2).1 then none else (ldl (rdn (rdn c).2).2.tail.length (nx + (rdn c).1 + (rdn (rdn c).2).1 + 1) (rdn (rdn c).2).2.tail).map ((nx + (rdn c).1, nx + (rdn c).1 + (rdn (rdn c).2).1, (rdn (rdn c).2).2.headD 0) :: ·) by
        obtain ⟨f, hf⟩ : ∃ f, c.length = f + 1 := ⟨c.length - 1, by omega⟩
        rw [hf, ldl_step hcn, ldl_more f (rdn (rdn c).2).2.tail.length _ _ (by omega) (Nat.le_refl _)])
      have HN4 := hid (fun W ro' rc' (hx : XAt X (.slice ro' (rdn c).2.length rc') W) (hr : RdU W ro' (rdn c).2) (hc : (rdn c).2.length ≤ rc') => readN_x X ro' rc' (rdn c).2 W hx hr H83.out hc (by omega))
      have HN5 := hid (fun W ro' rc' (hx : XAt X (.slice ro' (rdn (rdn c).2).2.length rc') W) (hr : RdU W ro' (rdn (rdn c).2).2) (hc : (rdn (rdn c).2).2.length ≤ rc') => class_x X ro' rc' (rdn (rdn c).2).2 W hx hr H84.out hc (by omega))
      obtain ⟨d1, ed1⟩ : ∃ d1, d1 = (rdn c).1 := ⟨_, rfl⟩
      obtain ⟨c1, ec1⟩ : ∃ c1, c1 = (rdn c).2 := ⟨_, rfl⟩
      rw [← ed1] at hd1 HN3 HST
      rw [← ec1] at HN3 HN4 HN5 HST a1 a2 a3 H83 H84 H85 hd2 hd3
      obtain ⟨d2, ed2⟩ : ∃ d2, d2 = (rdn c1).1 := ⟨_, rfl⟩
      obtain ⟨c2, ec2⟩ : ∃ c2, c2 = (rdn c1).2 := ⟨_, rfl⟩
      rw [← ed2] at hd2 HN4 HST
      rw [← ec2] at HN4 HN5 HST a2 a3 H84 H85 hd3
      obtain ⟨cl, ecl⟩ : ∃ cl, cl = c2.headD 0 := ⟨_, rfl⟩
      obtain ⟨c3, ec3⟩ : ∃ c3, c3 = c2.tail := ⟨_, rfl⟩
      rw [← ecl] at HN5 HST hd3
      rw [← ec3] at HN5 HST a3 H85
      obtain ⟨lo, elo⟩ : ∃ lo, lo = nx + d1 := ⟨_, rfl⟩
      rw [← elo] at HST
      obtain ⟨hh, ehh⟩ : ∃ hh, hh = lo + d2 := ⟨_, rfl⟩
      rw [← ehh] at HST
      have e1 : IntKind.i64.wrap ((nx : Int) + (d1 : Int)) = (lo : Int) := by rw [IntKind.wrap_i64]; omega
      have e2 : IntKind.i64.wrap ((lo : Int) + (d2 : Int)) = (hh : Int) := by rw [IntKind.wrap_i64]; omega
      have hlh : lo ≤ hh := by omega
      have hnl : nx ≤ lo := by omega
      obtain ⟨m, hm⟩ : ∃ m, m = c.length := ⟨_, rfl⟩
      rw [← hm] at xc hcl a1 hic
      have hm' : (0 : Int) < (m : Int) := by omega
      have HMM := hid hm
      clear ed1 ec1 ed2 ec2 ecl ec3 elo ehh hcn hm
      go_wp2_with fail
      refine HN3.out.mono ?_
      rintro e w3 ⟨rfl, ro3, rc3, x3, t3, l3, s3⟩
      have HB3 := hid (s3.below HBC.out)
      have HT3 := hid (show ∀ W, RdU W ao b → RdU W ro3 c1 from fun W hW => t3 W (HTC.out W hW))
      have HO3 := hid (s3.own HOL.out (Nat.lt_succ_self X))
      have hs3 : X < w3.heap.size := by rw [s3.size]; exact hsc
      have HC4 := hid (HN4.out w3 ro3 rc3 x3 (HT3.out _ (HRA.out _ HB3.out)) l3)
      clear x3 t3 l3 s3 HN3 HN4 xc
      go_wp2_with fail
      refine HC4.out.mono ?_
      rintro e w4 ⟨rfl, ro4, rc4, x4, t4, l4, s4⟩
      have HB4 := hid (s4.below HB3.out)
      have HT4 := hid (show ∀ W, RdU W ao b → RdU W ro4 c2 from fun W hW => t4 W (HT3.out W hW))
      have HO4 := hid (s4.own HO3.out (Nat.lt_succ_self X))
      have hs4 : X < w4.heap.size := by rw [s4.size]; exact hs3
      have HC5 := hid (HN5.out w4 ro4 rc4 x4 (HT4.out _ (HRA.out _ HB4.out)) l4)
      clear x4 t4 l4 s4 HC4 HN5
      go_wp2_with fail
      refine HC5.out.mono ?_
      rintro e w5 ⟨rfl, ro5, rc5, x5, t5, l5, s5⟩
      have HB5 := hid (s5.below HB4.out)
      have HT5 := hid (show ∀ W, RdU W ao b → RdU W ro5 c3 from fun W hW => t5 W (HT4.out W hW))
      have HO5 := hid (s5.own HO4.out (Nat.lt_succ_self X))
      have hs5 : X < w5.heap.size := by rw [s5.size]; exact hs4
      have HX5 := hid x5
      have HL5 := hid l5
      clear x5 t5 l5 s5 HC5
      by_cases hov : 1114111 < hh
      · have hov' : (1114111 : Int) < (hh : Int) := by omega
        have HLS := hid (show lds b = none by
          have h6 : ldR b = none := by rw [← HLD2.out, HST.out, if_pos hov]; rfl
          unfold lds
          rw [h6])
        go_wp2
        go_ret2
        exact ⟨HB5.out, .inl ⟨HLS.out, rfl⟩⟩
      · have hov' : ¬ (1114111 : Int) < (hh : Int) := by omega
        rw [if_neg hov] at HST
        have HLD3 := hid (show (ldl c3.length (hh + 1) c3).map ((L ++ [(lo, hh, cl)]) ++ ·) = ldR b by
          rw [← HLD2.out, HST.out]
          cases ldl c3.length (hh + 1) c3 with
          | none => rfl
          | some M => simp)
        have e3 : IntKind.i32.wrap (lo : Int) = (lo : Int) := by rw [IntKind.wrap_i32]; omega
        have e4 : IntKind.i32.wrap (hh : Int) = (hh : Int) := by rw [IntKind.wrap_i32]; omega
        have e5 : IntKind.i64.wrap ((hh : Int) + 1) = ((hh + 1 : Nat) : Int) := by rw [IntKind.wrap_i64]; omega
        have HR6 := hid (show Ris 0 (L ++ [(lo, hh, cl)]) from (ris_snoc L 0 (lo, hh, cl)).2 ⟨HRI.out, Nat.le_trans HEN.out hnl, hlh, by show hh ≤ 1114111; omega, hd3⟩)
        have HE6 := hid (show endR 0 (L ++ [(lo, hh, cl)]) ≤ hh + 1 by rw [endR_snoc]; exact Nat.le_refl _)
        have HLI6 := hid (show (L ++ [(lo, hh, cl)]).length = i + 1 by rw [List.length_append, HLI.out]; rfl)
        have hLi := HLI.out
        have hL9 : L.length ≤ 100000000 := by omega
        obtain ⟨ln, hln⟩ : ∃ ln, ln = L.length := ⟨_, rfl⟩
        have HLN := hid hln
        rw [← hln] at hL9 HO5
        clear hln hLi hov
        go_wp2_with (at_builtin; refine wpList_append_lies _ rfl _ _ 25 rfl (X + 1) 36 i0 (.agg #[.int .i32 0, .int .i32 0, .int .i64 0]) 3 16 Try.underlying25 hi36 hz0 hz1 hz2 rfl (by decide) _ ln (rks L) rfl (HO5.out.alloc _) ⟨w5.heap.size, 0, none⟩ 1 1 (rkc ((lo : Int), (hh : Int), (cl : Int))) rfl rfl (news_k w5 ((lo : Int), (hh : Int), (cl : Int)) 36) (rkc_one _) (by decide) (by unfold maxLen; omega) (by omega) (by simp; omega) (w5.heap.size + 1) (by simp) ?_; intro q6 c6 w6 o6 gr6 hlie6 hlt6)
        have HA6 := hid (((Below.refl (X + 1) w5).alloc (show X + 1 ≤ w5.heap.size by omega) (.cells #[.int .i32 (lo : Int), .int .i32 (hh : Int), .int .i64 (cl : Int)] 36)).grown gr6 (by simp; omega) (fun k hk => (HO5.out.lt k hk).1))
        have HB6 := hid (HB5.out.trans (HA6.out.mono (Nat.le_succ X)))
        have HX6 := hid (show XAt X (.slice ro5 c3.length rc5) w6 from (HA6.out.block X (Nat.lt_succ_self X)).trans HX5.out)
        have HO6 := hid (show w6.ownsRow (X + 1) 36 3 (.slice (some ⟨q6, 0, none⟩) (ln + 1) c6) (L ++ [(lo, hh, cl)]).length (rks (L ++ [(lo, hh, cl)])) by
          rw [rks_snoc, List.length_append, ← HLN.out]
          exact o6)
        have HS6 := hid (show X < w6.heap.size from Nat.lt_of_lt_of_le hs5 HA6.out.size)
        clear o6 gr6 hlie6 hlt6
        go_roundw
        case rel => exact ⟨i + 1, hh + 1, L ++ [(lo, hh, cl)], c3, _, ro5, rc5, rfl, by go_num, by omega, by omega, HLI6, HR6, HE6, HLD3, HO6, HX6, HT5, HL5, H85, HB6, HS6⟩
        case measure =>
          rw [HX6.out.cell, HXC.out.cell]
          show c3.length < c.length
          rw [← HMM.out]; omega
end Go.Proofs.Ytljlhlcoaajggaa
