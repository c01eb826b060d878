/- The document's normal form of rising ranges is the ranges of their table. -/
import Derived.Test.YtljlhlcoaajggaaOrdMath
import Derived.Test.YtljlhlcoaajggaaRangesAll
import Derived.Test.YtljlhlcoaajggaaLiveMathAll
namespace Go.Proofs.Ytljlhlcoaajggaa

/-- A range behind others: it makes the last one longer, if that ends right ahead of it and has its class. -/
def jA (o : List Tr) (g : Tr) : List Tr := match o.getLast? with
  | some z => if z.2.1 + 1 = g.1 ∧ z.2.2 = g.2.2 then o.dropLast ++ [(z.1, g.2.1, z.2.2)] else o ++ [g]
  | none => [g]
theorem jA_nil (g : Tr) : jA [] g = [g] := rfl
theorem jA_snoc (Q : List Tr) (z g : Tr) : jA (Q ++ [z]) g = if z.2.1 + 1 = g.1 ∧ z.2.2 = g.2.2 then Q ++ [(z.1, g.2.1, z.2.2)] else Q ++ [z, g] := by
  have h : (Q ++ [z]).getLast? = some z := by simp
  unfold jA
  rw [h]
  dsimp only
  rw [List.dropLast_concat]
  split
  · rfl
  · simp
/-- The document's normal form. -/
def nrA (r : Nat) : List Tr → List Tr → List Tr
  | o, [] => o
  | o, g :: A => if g.2.2 = r then nrA r o A else nrA r (jA o g) A
theorem nrA_snoc (r : Nat) : ∀ (A : List Tr) (o : List Tr) (g : Tr), nrA r o (A ++ [g]) = if g.2.2 = r then nrA r o A else jA (nrA r o A) g
  | [], o, g => rfl
  | x :: A, o, g => by
    show (if x.2.2 = r then nrA r o (A ++ [g]) else nrA r (jA o x) (A ++ [g])) = _
    have e : nrA r o (x :: A) = if x.2.2 = r then nrA r o A else nrA r (jA o x) A := rfl
    rw [e]
    split
    · exact nrA_snoc r A o g
    · exact nrA_snoc r A (jA o x) g
theorem fil_jn (r : Nat) (R : List Tr) (x : Tr) (h : x.2.2 = r) : fil r (jn R x) = fil r R := by
  rcases List.eq_nil_or_concat R with rfl | ⟨Q, z, rfl⟩
  · rw [jn_nil]; exact fil_one_no h
  · rw [List.concat_eq_append, jn_snoc]
    split
    · rename_i hz
      rw [fil_snoc_no (show ((z.1, x.2.1, x.2.2) : Tr).2.2 = r from h), fil_snoc_no (hz.trans h)]
    · rw [show Q ++ [z, x] = (Q ++ [z]) ++ [x] by simp, fil_snoc_no h]
theorem endR_le {L : List Tr} {b : Nat} (h : Ris b L) : ∀ x ∈ L, x.2.1 + 1 ≤ endR b L := by
  intro x hx
  rcases List.eq_nil_or_concat L with rfl | ⟨Q, z, rfl⟩
  · cases hx
  · rw [List.concat_eq_append] at h hx ⊢
    rw [endR_snoc]
    rcases List.mem_append.1 hx with hx | hx
    · have h1 := (ris_snoc Q b z).1 h
      have h2 := endR_le (L := Q) h1.1 x hx
      omega
    · simp at hx; rw [hx]; exact Nat.le_refl _
  termination_by L.length
  decreasing_by simp_all
theorem fil_mem {r : Nat} {L : List Tr} {x : Tr} (h : x ∈ fil r L) : x ∈ L := by
  unfold fil at h
  exact (List.mem_filter.1 h).1
/-- What is appended: the last of o does not end right ahead of g. -/
theorem jA_far (o : List Tr) (g : Tr) (h : ∀ x ∈ o, x.2.1 + 1 < g.1) : jA o g = o ++ [g] := by
  rcases List.eq_nil_or_concat o with rfl | ⟨Q, z, rfl⟩
  · rfl
  · rw [List.concat_eq_append] at h ⊢
    rw [jA_snoc, if_neg (fun hc => by have := h z (by simp); omega)]
    simp
theorem jn_gap (R : List Tr) (b k c : Nat) (hk : 0 < k) : rlA b R (List.replicate k c) = jn R (b, b + (k - 1), c) := by
  obtain ⟨j, rfl⟩ : ∃ j, k = j + 1 := ⟨k - 1, by omega⟩
  rw [rlA_rep]; rfl
theorem clq_256 (r : Nat) (A : List Tr) (hr : r < 256) (h : Ris 0 A) : ∀ c ∈ clq r 0 A, c < 256 := fun c hc => clA_256 r A hr h c (by unfold clA; exact List.mem_append_left _ hc)
theorem nrA_eq (r : Nat) (hr : r < 256) : ∀ (n : Nat) (A : List Tr), A.length = n → Ris 0 A → nrA r [] A = fil r (rlA 0 [] (clq r 0 A))
  | 0, A, h, _ => by
    have : A = [] := List.length_eq_zero_iff.1 h
    subst this; rfl
  | n + 1, A, h, hR => by
    rcases List.eq_nil_or_concat A with rfl | ⟨P, g, rfl⟩
    · simp at h
    · rw [List.concat_eq_append] at h hR ⊢
      have hl : P.length = n := by simpa using h
      obtain ⟨hP, he, hg1, hg2, hg3⟩ := (ris_snoc P 0 g).1 hR
      have ih := nrA_eq r hr n P hl hP
      have hlen := clq_end r P 0 hP
      rw [Nat.zero_add] at hlen
      have hb := clq_len r P 0 (by omega) hP
      obtain ⟨hLR, hLE⟩ := rlA_ris _ (clq r 0 P) rfl (by omega) (clq_256 r P hr hP)
      rw [nrA_snoc, clq_snoc, rlA_app, rlA_app, Nat.zero_add, hlen, List.length_replicate]
      rw [hlen] at hLE
      rw [jn_gap _ _ (g.2.1 + 1 - g.1) g.2.2 (by omega)]
      rw [show endR 0 P + (g.1 - endR 0 P) = g.1 by omega, show g.1 + (g.2.1 + 1 - g.1 - 1) = g.2.1 by omega]
      obtain ⟨L, hL⟩ : ∃ L, L = rlA 0 [] (clq r 0 P) := ⟨_, rfl⟩
      rw [← hL] at ih hLR hLE ⊢
      obtain ⟨e, hee⟩ : ∃ e, e = endR 0 P := ⟨_, rfl⟩
      rw [← hee] at hLE he ⊢
      have hR1 : fil r (rlA e L (List.replicate (g.1 - e) r)) = fil r L := by
        by_cases hgap : g.1 - e = 0
        · rw [hgap]; rfl
        · rw [jn_gap _ _ _ _ (by omega)]
          exact fil_jn r L _ rfl
      by_cases hc : g.2.2 = r
      · rw [if_pos hc, fil_jn r _ _ hc, hR1, ih]
      · rw [if_neg hc, ih]
        by_cases hgap : g.1 - e = 0
        · have hge : g.1 = e := by omega
          rw [hgap]
          show jA (fil r L) g = fil r (jn L (g.1, g.2.1, g.2.2))
          rcases List.eq_nil_or_concat L with h2 | ⟨Q, z, h2⟩
          · rw [h2]
            show [g] = fil r [g]
            rw [fil_one_yes hc]
          · rw [List.concat_eq_append] at h2
            rw [h2] at hLR hLE ⊢
            rw [endR_snoc] at hLE
            obtain ⟨q1, q2, q3, q4, q5⟩ := (ris_snoc Q 0 z).1 hLR
            rw [jn_snoc]
            by_cases hzc : z.2.2 = g.2.2
            · rw [if_pos hzc, fil_snoc_yes (show ((z.1, g.2.1, g.2.2) : Tr).2.2 ≠ r from hc), fil_snoc_yes (by rw [hzc]; exact hc), jA_snoc, if_pos ⟨by omega, hzc⟩, hzc]
            · rw [if_neg hzc, show Q ++ [z, (g.1, g.2.1, g.2.2)] = (Q ++ [z]) ++ [g] by simp, fil_snoc_yes hc]
              by_cases hzr : z.2.2 = r
              · rw [fil_snoc_no hzr]
                refine jA_far _ _ (fun x hx => ?_)
                have h3 := endR_le q1 x (fil_mem hx)
                omega
              · rw [fil_snoc_yes hzr, jA_snoc, if_neg (fun h => hzc h.2)]
                simp
        · rw [jn_gap _ _ _ _ (by omega)]
          have hfar : jA (fil r L) g = fil r L ++ [g] := jA_far _ _ (fun x hx => by
            have h3 := endR_le hLR x (fil_mem hx)
            omega)
          rw [hfar]
          have hjj : fil r (jn (jn L (e, e + (g.1 - e - 1), r)) (g.1, g.2.1, g.2.2)) = fil r (jn L (e, e + (g.1 - e - 1), r)) ++ [g] := by
            rcases List.eq_nil_or_concat L with h2 | ⟨Q, z, h2⟩
            · rw [h2, jn_nil]
              have := jn_snoc [] (e, e + (g.1 - e - 1), r) (g.1, g.2.1, g.2.2)
              rw [if_neg (fun h => hc h.symm)] at this
              rw [List.nil_append] at this
              rw [this, show ([] : List Tr) ++ [(e, e + (g.1 - e - 1), r), (g.1, g.2.1, g.2.2)] = [(e, e + (g.1 - e - 1), r)] ++ [g] by simp, fil_snoc_yes hc]
            · rw [List.concat_eq_append] at h2
              rw [h2, jn_snoc]
              split
              · rw [jn_snoc, if_neg (fun h => hc h.symm), show Q ++ [(z.1, e + (g.1 - e - 1), r), (g.1, g.2.1, g.2.2)] = (Q ++ [(z.1, e + (g.1 - e - 1), r)]) ++ [g] by simp, fil_snoc_yes hc]
              · rw [show Q ++ [z, (e, e + (g.1 - e - 1), r)] = (Q ++ [z]) ++ [(e, e + (g.1 - e - 1), r)] by simp, jn_snoc, if_neg (fun h => hc h.symm), show (Q ++ [z]) ++ [(e, e + (g.1 - e - 1), r), (g.1, g.2.1, g.2.2)] = ((Q ++ [z]) ++ [(e, e + (g.1 - e - 1), r)]) ++ [g] by simp, fil_snoc_yes hc]
          rw [hjj, fil_jn r L _ rfl]
theorem nrA_rgs (r : Nat) (hr : r < 256) (A : List Tr) (h : Ris 0 A) : nrA r [] A = rgs r (clA r A) := by
  rw [nrA_eq r hr _ A rfl h]
  unfold rgs clA
  rw [rlA_app]
  by_cases hk : 1114112 - (clq r 0 A).length = 0
  · rw [hk]; rfl
  · rw [jn_gap _ _ _ _ (by omega), fil_jn r _ _ rfl]
end Go.Proofs.Ytljlhlcoaajggaa
/- The contracts of class, right and sorted (package kerfref03). -/
namespace Go.Proofs.Ytljlhlcoaajggaa
open Go.RowKit

theorem rclass_any (n : Int) (w : World) :
    Calls Try.prog 40 #[.int .i64 n] w fun e w' => e = .returned (.bool (icl n)) ∧ w' = w := by
  by_cases h0 : 0 ≤ n
  · by_cases h1 : n ≤ 255
    · have HZ := hid (show icl n = true from decide_eq_true (show 0 ≤ n ∧ n ≤ 255 from ⟨h0, h1⟩))
      go_enter Try.func40, Try.ntmps40
      go_wp2
      go_ret
      exact ⟨by rw [HZ.out]; rfl, rfl⟩
    · have HZ := hid (show icl n = false from decide_eq_false (show ¬ (0 ≤ n ∧ n ≤ 255) from fun h => h1 h.2))
      go_enter Try.func40, Try.ntmps40
      go_wp2
      go_ret
      exact ⟨by rw [HZ.out]; rfl, rfl⟩
  · have HZ := hid (show icl n = false from decide_eq_false (show ¬ (0 ≤ n ∧ n ≤ 255) from fun h => h0 h.1))
    go_enter Try.func40, Try.ntmps40
    go_wp2
    go_ret
    exact ⟨by rw [HZ.out]; rfl, rfl⟩
theorem right_any (g : Rk) (w : World) :
    Calls Try.prog 41 #[rkv g] w fun e w' => e = .returned (.bool (okR g)) ∧ Below w.heap.size w w' := by
  obtain ⟨a, b, c⟩ := g
  unfold rkv
  have HB := hid ((Below.refl w.heap.size w).alloc (Nat.le_refl _) (.cells #[.int .i32 a, .int .i32 b, .int .i64 c] 36))
  by_cases h0 : 0 ≤ a
  · by_cases h1 : b ≤ 1114111
    · by_cases h2 : a ≤ b
      · have HZ := hid (show okR (a, b, c) = icl c by
          unfold okR
          rw [decide_eq_true (show 0 ≤ a ∧ b ≤ 1114111 ∧ a ≤ b from ⟨h0, h1, h2⟩), Bool.true_and])
        cases hc : icl c with
        | true =>
          go_enter Try.func41, Try.ntmps41
          go_wp2_with (go_at_call 40; refine (rclass_any _ _).mono ?_; rintro e w2 ⟨rfl, hw2⟩; obtain rfl := hw2.symm; rw [hc])
          go_ret
          exact ⟨by rw [HZ.out, hc]; rfl, HB.out⟩
        | false =>
          go_enter Try.func41, Try.ntmps41
          go_wp2_with (go_at_call 40; refine (rclass_any _ _).mono ?_; rintro e w2 ⟨rfl, hw2⟩; obtain rfl := hw2.symm; rw [hc])
          go_ret
          exact ⟨by rw [HZ.out, hc]; rfl, HB.out⟩
      · have HZ := hid (show okR (a, b, c) = false by
          unfold okR
          rw [decide_eq_false (fun (h : 0 ≤ a ∧ b ≤ 1114111 ∧ a ≤ b) => h2 h.2.2), Bool.false_and])
        go_enter Try.func41, Try.ntmps41
        go_wp2
        go_ret
        exact ⟨by rw [HZ.out]; rfl, HB.out⟩
    · have HZ := hid (show okR (a, b, c) = false by
        unfold okR
        rw [decide_eq_false (fun (h : 0 ≤ a ∧ b ≤ 1114111 ∧ a ≤ b) => h1 h.2.1), Bool.false_and])
      go_enter Try.func41, Try.ntmps41
      go_wp2
      go_ret
      exact ⟨by rw [HZ.out]; rfl, HB.out⟩
  · have HZ := hid (show okR (a, b, c) = false by
      unfold okR
      rw [decide_eq_false (fun (h : 0 ≤ a ∧ b ≤ 1114111 ∧ a ≤ b) => h0 h.1), Bool.false_and])
    go_enter Try.func41, Try.ntmps41
    go_wp2
    go_ret
    exact ⟨by rw [HZ.out]; rfl, HB.out⟩
end Go.Proofs.Ytljlhlcoaajggaa
/- The contracts of num and live (package kerflaw03). -/
namespace Go.Proofs.Ytljlhlcoaajggaa
open Go.RowKit

theorem num_any (z : Int) (w : World) : Calls Try.prog 9 #[.int .i64 z] w fun e w' => e = .returned (.int .i64 z) ∧ w' = w := by
  go_enter Try.func9, Try.ntmps9
  go_wp2
  go_ret
  exact ⟨rfl, rfl⟩
theorem below_drewN (B : Nat) (w : World) (n : Nat) : Below B w (w.drewN n) := ⟨rfl, rfl, rfl, Nat.le_refl _, fun _ _ => rfl⟩
theorem lv_rd (w : World) : RdK (w.alloc (.cells #[.int .i32 768, .int .i32 879, .int .i64 2, .int .i32 97, .int .i32 122, .int .i64 1] 36)) (some ⟨w.heap.size, 0, none⟩) lvI := fun k g hk => by
  have hN := heap_alloc_new w (.cells #[.int .i32 768, .int .i32 879, .int .i64 2, .int .i32 97, .int .i32 122, .int .i64 1] 36)
  refine ⟨_, rfl, by simp, ?_⟩
  rw [Addr.add_lit, Nat.zero_add]
  match k, hk with
  | 0, hk =>
    cases hk
    refine ⟨?_, ?_, ?_⟩ <;> (rw [cell_of_row _ w.heap.size _ _ 36 (0, 0) hN]; rfl)
  | 1, hk =>
    cases hk
    refine ⟨?_, ?_, ?_⟩ <;> (rw [cell_of_row _ w.heap.size _ _ 36 (0, 0) hN]; rfl)
  | k + 2, hk => simp [lvI] at hk

set_option maxHeartbeats 6000000 in
set_option maxRecDepth 100000 in
theorem live_any (w : World) : Calls Try.prog 10 #[] w fun e w' => e = .returned (.bool true) ∧ Below w.heap.size w w' := by
  have HB0 := hid ((Below.refl w.heap.size w).alloc (Nat.le_refl _) (.cells #[.int .i32 768, .int .i32 879, .int .i64 2, .int .i32 97, .int .i32 122, .int .i64 1] 36))
  have HBU := hid (build_any (some ⟨w.heap.size, 0, none⟩) 2 lvI 0 _ (lv_rd w) (by decide))
  have hsz : w.heap.size ≤ (w.alloc (.cells #[.int .i32 768, .int .i32 879, .int .i64 2, .int .i32 97, .int .i32 122, .int .i64 1] 36)).heap.size := by simp
  go_enter Try.func10, Try.ntmps10
  go_wp2_with fail
  refine HBU.out.mono ?_
  rintro e w1 ⟨b1, hc⟩
  rw [lv_bo, lv_srt] at hc
  rcases hc with ⟨c, k, hc, _⟩ | ⟨_, T, F, rfl, hT, hF, _, hTb⟩
  · cases hc
  change F.flatten = clA 0 lvA at hF
  change TbAt _ T F 0 w1 at hTb
  have hFG : F = lvG := by
    obtain ⟨_, _, _, _, ho, _⟩ := hTb
    exact flat_one ho lv_ok (hF.trans lv_flat.symm)
  have HB1 := hid (HB0.out.trans (b1.mono hsz))
  have HTb := hid hTb
  have HF := hid hF
  have HFG := hid hFG
  clear b1 hTb hF hFG hT HBU hsz
  have HG1 := hid (get_any _ T 0 F 98 w1 HTb.out (by decide))
  rw [HF.out, lv_98] at HG1
  go_wp2_with (go_at_call 9; refine (num_any _ _).mono ?_; rintro e w9 ⟨rfl, h9⟩; obtain rfl := h9.symm)
  refine HG1.out.mono ?_
  rintro e w2 ⟨rfl, n2, rfl⟩
  have HB2 := hid (HB1.out.trans (below_drewN w.heap.size w1 n2))
  have HT2 := hid (HTb.out.below (below_drewN w1.heap.size w1 n2))
  obtain ⟨w2, hw2⟩ : ∃ w2, w2 = w1.drewN n2 := ⟨_, rfl⟩
  rw [← hw2] at HB2 HT2 ⊢
  clear hw2 HG1
  have HG2 := hid (get_any _ T 0 F 769 w2 HT2.out (by decide))
  rw [HF.out, lv_769] at HG2
  go_wp2_with fail
  refine HG2.out.mono ?_
  rintro e w3 ⟨rfl, n3, rfl⟩
  have HB3 := hid (HB2.out.trans (below_drewN w.heap.size w2 n3))
  have HT3 := hid (HT2.out.below (below_drewN w2.heap.size w2 n3))
  obtain ⟨w3, hw3⟩ : ∃ w3, w3 = w2.drewN n3 := ⟨_, rfl⟩
  rw [← hw3] at HB3 HT3 ⊢
  clear hw3 HG2
  have HG3 := hid (get_out _ T 0 F (-1) w3 HT3.out (by decide) (.inl (by decide)))
  have HBL := hid (blocks_any _ T 0 F w3 HT3.out)
  rw [HFG.out, lv_uq] at HBL
  have HCN := hid (count_any _ T 0 F 1 w3 HT3.out)
  rw [HF.out, lv_cz] at HCN
  go_wp2_with (first
    | (go_at_call 34; refine HG3.out.mono ?_; rintro e w9 ⟨rfl, h9⟩; obtain rfl := h9.symm)
    | (go_at_call 15; refine HBL.out.mono ?_; rintro e w9 ⟨rfl, h9⟩; obtain rfl := h9.symm)
    | fail)
  refine HCN.out.mono ?_
  rintro e w4 ⟨rfl, b4⟩
  have HB4 := hid (HB3.out.trans (b4.mono HB3.out.size))
  have HT4 := hid (HT3.out.below b4)
  have HBY := hid (bytes_any _ T 0 F w4 HT4.out (by decide))
  rw [HF.out, lv_rg, lv_en] at HBY
  clear b4 HG3 HBL HCN
  go_wp2_with fail
  refine HBY.out.mono ?_
  rintro e w5 ⟨v5, rfl, o5, b5⟩
  obtain ⟨yo, yc, rfl⟩ := own_form o5
  have HB5 := hid (HB4.out.trans (b5.mono HB4.out.size))
  have HT5 := hid (HT4.out.below b5)
  have hyc : lvB.length ≤ yc ∧ (yo = none → yc = 0) := by
    rcases o5.2 with ⟨h5, h6⟩ | ⟨q, cap, cur, h5, _, _, h7, _⟩
    · cases h6
    · simp only [Value.slice.injEq, true_and] at h5
      obtain ⟨rfl, rfl⟩ := h5
      exact ⟨h7, fun h => by cases h⟩
  have HLO := hid (load_any yo yc lvB w5 (rdu_own o5) (by decide) hyc.1 (by decide) hyc.2)
  clear o5 b5 HBY hyc
  go_wp2_with fail
  refine HLO.out.mono ?_
  rintro e w6 ⟨b6, hc⟩
  rw [lv_lds] at hc
  rcases hc with ⟨hc, _⟩ | ⟨T6, F6, L6, hL, rfl, hT6, hF6, _, hTb6⟩
  · cases hc
  cases hL
  rw [lv_ldr] at hF6 hTb6
  have hFG6 : F6 = F := by
    rw [HFG.out]
    obtain ⟨_, _, _, _, ho, _⟩ := hTb6
    exact flat_one ho lv_ok (hF6.trans lv_flat.symm)
  subst hFG6
  have HB6 := hid (HB5.out.trans (b6.mono HB5.out.size))
  have HT6 := hid (HT5.out.below b6)
  have HX6 := hid hTb6
  have HEQ := hid (equal_any _ _ T T6 0 0 F6 F6 w6 HT6.out HX6.out)
  rw [decide_eq_true (show (0 : Nat) = 0 ∧ F6 = F6 from ⟨rfl, rfl⟩)] at HEQ
  clear b6 hTb6 hF6 hT6 HLO
  go_wp2_with (first | (go_at_call 9; refine (num_any _ _).mono ?_; rintro e w9 ⟨rfl, h9⟩; obtain rfl := h9.symm) | fail)
  refine HEQ.out.mono ?_
  rintro e w7 ⟨rfl, b7⟩
  have HB7 := hid (HB6.out.trans (b7.mono HB6.out.size))
  have HT7 := hid (HT6.out.below b7)
  have HX7 := hid (HX6.out.below b7)
  have HRA := hid (ranges_any _ T6 0 F6 w7 HX7.out (by decide))
  rw [HF.out, lv_rg] at HRA
  clear b7 HEQ
  go_wp2_with fail
  refine HRA.out.mono ?_
  rintro e w8 ⟨v8, rfl, o8, b8⟩
  obtain ⟨ro, rc, rfl⟩ := own_form o8
  have HB8 := hid (HB7.out.trans (b8.mono HB7.out.size))
  have HT8 := hid (HT7.out.below b8)
  have HBZ := hid (bytes_any _ T 0 F6 w8 HT8.out (by decide))
  rw [HF.out, lv_rg, lv_en] at HBZ
  rw [show lvA.length = 2 from rfl]
  clear o8 b8 HRA
  go_wp2_with fail
  refine HBZ.out.mono ?_
  rintro e w9 ⟨v9, rfl, o9, b9⟩
  obtain ⟨zo, zc, rfl⟩ := own_form o9
  have HB9 := hid (HB8.out.trans (b9.mono HB8.out.size))
  rw [show lvB.length = 9 from rfl]
  clear o9 b9 HBZ
  go_wp2
  go_ret
  exact ⟨rfl, HB9.out⟩
end Go.Proofs.Ytljlhlcoaajggaa
