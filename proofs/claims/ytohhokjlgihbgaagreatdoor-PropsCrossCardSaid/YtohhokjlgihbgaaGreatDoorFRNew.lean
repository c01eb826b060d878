/- The contract of the document's New: the names and the sets of what the program reads. -/
import Derived.Test.YtohhokjlgihbgaaGreatDoorFRLine
import Derived.Test.YtohhokjlgihbgaaGreatDoorFRLines
import Derived.Test.YtohhokjlgihbgaaGreatDoorFEvMath
import Derived.Test.YtohhokjlgihbgaaGreatDoorFReadMath
import Derived.Test.YtohhokjlgihbgaaGreatDoorFSearch
import Derived.Test.YtohhokjlgihbgaaGreatDoorFText
import Derived.Test.YtohhokjlgihbgaaGreatDoorFCode
namespace Go.Proofs.YtohhokjlgihbgaaGreatDoor
open Go.RowKit

theorem dl3_len (s b : List UInt8) (L : List Rg) (e : Int) (h : dl3 s = some (b, L, e)) : L.length ≤ s.length := by
  unfold dl3 at h
  split at h
  · injection h with h; injection h with _ h; injection h with h _
    rw [← h]
    have h5 := par_len ((s.take (fdp 59 s)).map tbl)
    rw [List.length_map, List.length_take] at h5
    omega
  · cases h
theorem tot_get : ∀ (D : List (List Rg)) (c : Nat), (D.getD c []).length ≤ tot D
  | [], c => by simp [tot]
  | l :: D, 0 => by show l.length ≤ l.length + tot D; omega
  | l :: D, c + 1 => by
    have := tot_get D c
    show (D.getD c []).length ≤ l.length + tot D
    omega
theorem tot_app : ∀ (D E : List (List Rg)), tot (D ++ E) = tot D + tot E
  | [], E => by simp [tot]
  | l :: D, E => by
    show l.length + tot (D ++ E) = l.length + tot D + tot E
    rw [tot_app D E]; omega
theorem tot_mem (D : List (List Rg)) (x : List Rg) (h : x ∈ D) : x.length ≤ tot D := by
  obtain ⟨k, hk⟩ := List.mem_iff_getElem?.1 h
  have h5 := tot_get D k
  rw [List.getD_eq_getElem?_getD, hk] at h5
  exact h5
theorem tot_flat : ∀ (D : List (List Rg)), D.flatten.length = tot D
  | [] => rfl
  | l :: D => by rw [List.flatten_cons, List.length_append, tot_flat D]; rfl
theorem tot_drop (D : List (List Rg)) : (D.drop 1).flatten.length ≤ tot D := by
  rw [tot_flat]
  cases D with
  | nil => exact Nat.le_refl _
  | cons l D => show tot D ≤ l.length + tot D; omega
theorem orN_len (a b : List Rg) : (orN a b).length ≤ a.length + b.length := by
  unfold orN
  have h := nrm_len (a ++ b)
  rw [List.length_append] at h
  exact h
theorem dcN_tot (U : List (List UInt8)) (D : List (List Rg)) (b : List UInt8) (L : List Rg) : tot (dcN U D b L).2.2 ≤ tot D + L.length := by
  unfold dcN
  split
  · show tot D ≤ _; omega
  · split
    · show tot D ≤ _; omega
    · dsimp only
      split
      · have h1 := tot_set D (U.idxOf b) (orN (D.getD (U.idxOf b) []) L)
        have h2 := orN_len (D.getD (U.idxOf b) []) L
        have h3 := tot_get D (U.idxOf b)
        omega
      · rw [tot_app]
        have h2 := orN_len [] L
        show tot D + ((orN [] L).length + 0) ≤ _
        simp only [List.length_nil] at h2
        omega
theorem dcS_tot (U : List (List UInt8)) (D : List (List Rg)) (l : List UInt8) : tot (dcS U D l).2.2 ≤ tot D + l.length := by
  rw [dcS_O]
  split
  · show tot D ≤ _; omega
  · have h5 := rlin_len l
    cases h : dl3 (rlin l) with
    | none => show tot D ≤ _; omega
    | some x =>
      obtain ⟨b, L, e⟩ := x
      have h6 := dl3_len _ b L e h
      dsimp only [dcO]
      split
      · show tot D ≤ _; omega
      · split
        · show tot D ≤ _; omega
        · have h7 := dcN_tot U D b L
          omega
theorem sumL_drop (L : List (List UInt8)) (k : Nat) (x : List UInt8) (h : L[k]? = some x) : sumL (L.drop k) = x.length + sumL (L.drop (k + 1)) := by
  obtain ⟨hk, rfl⟩ := List.getElem?_eq_some_iff.1 h
  rw [List.drop_eq_getElem_cons hk]
  rfl
theorem three (w : World) (a b c : Obj) (w' : World) (h : w' = ((w.alloc a).alloc b).alloc c) : w'.heap[w.heap.size]? = some a ∧ w'.heap[w.heap.size + 1]? = some b ∧ w'.heap[w.heap.size + 2]? = some c ∧ w'.heap.size = w.heap.size + 3 := by
  subst h
  refine ⟨?_, ?_, ?_, by simp⟩
  · rw [heap_alloc_old _ _ _ (by simp; omega), heap_alloc_old _ _ _ (by simp), heap_alloc_new]
  · rw [heap_alloc_old _ _ _ (by simp)]
    have h5 := heap_alloc_new (w.alloc a) b
    rw [World.size_alloc] at h5
    exact h5
  · have h5 := heap_alloc_new ((w.alloc a).alloc b) c
    rw [World.size_alloc, World.size_alloc] at h5
    exact h5
theorem doc_start (w : World) : DocAt w.heap.size (w.heap.size + 2) [oth] [[]] (.slice (some ⟨w.heap.size, 0, none⟩) 1 1) (.slice (some ⟨w.heap.size + 1, 0, none⟩) 1 1) [.slice none 0 0]
    (((w.alloc (.cells #[.string ⟨#[79, 116, 104, 101, 114]⟩] 9)).alloc (.cells #[.slice none 0 0] 47)).alloc (.cells #[.slice (some ⟨w.heap.size, 0, none⟩) 1 1, .slice (some ⟨w.heap.size + 1, 0, none⟩) 1 1] 79)) := by
  obtain ⟨h0, h1, h2, _⟩ := three w (.cells #[.string ⟨#[79, 116, 104, 101, 114]⟩] 9) (.cells #[.slice none 0 0] 47) (.cells #[.slice (some ⟨w.heap.size, 0, none⟩) 1 1, .slice (some ⟨w.heap.size + 1, 0, none⟩) 1 1] 79) _ rfl
  refine ⟨h2, ⟨rfl, .inr ⟨w.heap.size, 1, _, rfl, Nat.le_refl _, h0, Nat.le_refl _, by unfold maxLen; omega, rfl, rfl⟩⟩, ⟨rfl, .inr ⟨w.heap.size + 1, 1, _, rfl, by omega, h1, Nat.le_refl _, by unfold maxLen; omega, rfl, rfl⟩⟩, fun k l hk => ?_, by omega⟩
  have hk0 : k = 0 := by have h5 := (List.getElem?_eq_some_iff.1 hk).1; simp at h5; omega
  subst hk0
  cases hk
  exact ⟨_, rfl, World.ownsRow_nil _ _ _ _⟩
theorem lns_pos : ∀ l : List UInt8, 1 ≤ (lns l).length
  | [] => by simp [lns]
  | b :: l => by
    rw [lns_cons]
    split <;> simp
set_option maxRecDepth 100000 in
set_option maxHeartbeats 3000000 in
theorem rnew_any (t : List UInt8) (w : World) (ht : t.length ≤ 12000 ∨ 65536 < t.length) :
    Calls Tryz.prog 11 #[.string ⟨t.toArray⟩] w fun e w' => Below w.heap.size w w' ∧
      (((nw t).1.1 ≠ 0 ∧ e = .returned (.tuple #[.pointer none, .int .i64 (nw t).1.1, .int .i64 ((nw t).1.2 : Int)])) ∨
       ((nw t).1.1 = 0 ∧ ∃ Q nv sv vs, e = .returned (.tuple #[.pointer (some ⟨Q, 0, none⟩), .int .i64 0, .int .i64 0]) ∧ DocAt w.heap.size Q (nw t).2.1 (dst (nw t).2.1.length (whl (nw t).2.2)) nv sv vs w')) := by
  have HSZ := hid (show (⟨t.toArray⟩ : ByteArray).size = t.length by show t.toArray.size = _; simp)
  by_cases hlong : 65536 < t.length
  · have HNW := hid (show nw t = ((1, 0), [oth], []) by unfold nw; rw [if_pos hlong])
    have hl' : (65536 : Int) < (t.length : Int) := by omega
    rw [HNW.out]
    clear hlong ht
    go_enter Tryz.func11, Tryz.ntmps11
    go_wp2
    go_ret3
    exact ⟨Below.refl _ _, .inl ⟨by decide, rfl⟩⟩
  · have HNW := hid (show nw t = nwF 0 [oth] [] (lns t) by unfold nw; rw [if_neg hlong])
    have hl' : ¬ (65536 : Int) < (t.length : Int) := by omega
    have htl : t.length ≤ 12000 := by omega
    obtain ⟨N, hN⟩ : ∃ N, N = w.heap.size := ⟨_, rfl⟩
    have HN := hid hN
    obtain ⟨W3, hW3⟩ : ∃ W3, W3 = ((w.alloc (.cells #[.string ⟨#[79, 116, 104, 101, 114]⟩] 9)).alloc (.cells #[.slice none 0 0] 47)).alloc (.cells #[.slice (some ⟨w.heap.size, 0, none⟩) 1 1, .slice (some ⟨w.heap.size + 1, 0, none⟩) 1 1] 79) := ⟨_, rfl⟩
    have HW3 := hid hW3
    have HD3 := hid (show DocAt N (N + 2) [oth] [[]] (.slice (some ⟨N, 0, none⟩) 1 1) (.slice (some ⟨N + 1, 0, none⟩) 1 1) [.slice none 0 0] W3 by rw [hW3, hN]; exact doc_start w)
    have HB3 := hid (show Below N w W3 by rw [hW3, hN]; exact (((Below.refl _ w).alloc (Nat.le_refl _) _).alloc (by simp) _).alloc (by simp; omega) _)
    have hs3 : W3.heap.size = N + 3 := by rw [hW3, hN]; simp
    have HLI := hid (rlines_any t W3 (by omega))
    obtain ⟨L, hL⟩ : ∃ L, L = lns t := ⟨_, rfl⟩
    have HLP := hid (show 1 ≤ L.length by rw [hL]; exact lns_pos t)
    have hLL : L.length ≤ 12001 := by rw [hL]; have h5 := lns_len t; omega
    have HLM := hid (show ∀ x ∈ L, x.length ≤ t.length by rw [hL]; exact lns_mem t)
    have HSU := hid (show sumL L ≤ t.length by rw [hL]; exact sum_lns t)
    rw [← hL] at HLI HNW
    clear hlong ht hN hW3 hL
    go_enter Tryz.func11, Tryz.ntmps11
    go_wp2_with fail
    rw [← HW3.out]
    refine HLI.out.mono ?_
    rintro e w4 ⟨lv, rfl, o4, b4⟩
    have HD4 := hid (HD3.out.below b4)
    have HB4 := hid (show Below N w w4 from HB3.out.trans (b4.mono (by omega)))
    have hs4 := b4.size
    obtain ⟨lo, lc, rfl, _⟩ := rdn_own o4 rfl
    have HO4 := hid o4
    obtain ⟨n, hn⟩ : ∃ n, n = L.length := ⟨_, rfl⟩
    have HNL := hid hn
    rw [← hn] at HO4 hLL ⊢
    rw [← HN.out]
    clear o4 b4 HLI HW3 HD3 HB3 hn
    go_wp2
    go_loopw [7, 8] (fun x _ wr => ∃ (k : Nat) (U : List (List UInt8)) (S : List Tr) (D : List (List Rg)) (nv sv : Value) (vs : List Value), x = .int .i64 (k : Int) ∧ k ≤ n ∧ Hid (nw t = nwF k U S (L.drop k)) ∧ Hid (Both U S D) ∧ Hid (tot D + sumL (L.drop k) ≤ t.length) ∧ Hid (DocAt N (N + 2) U D nv sv vs wr) ∧ Hid (wr.ownsRow W3.heap.size 9 1 (.slice lo n lc) n (nms L)) ∧ Hid (∀ y, (Value.slice lo n lc).ownBlock = some y → nv.ownBlock ≠ some y) ∧ Hid (Below N w wr)) (fun x _ _ => n - (intOf x).toNat)
    case atStart =>
      refine ⟨0, [oth], [], [[]], _, _, _, rfl, by omega, HNW, both_start, by show 0 + 0 + sumL L ≤ t.length; have h5 := HSU.out; omega, HD4, HO4, fun y hy he => ?_, HB4⟩
      have h5 := (HO4.out.lt y hy).1
      have e2 : N = y := by simpa [Value.ownBlock] using he
      omega
    case round =>
      obtain ⟨k, U, S, D, nv, sv, vs, rfl, hk, HE, HBO, HTO, HDO, HOR, HNE, HBr⟩ := hrel
      have hwr := HBr.out.size
      have hNr : N ≤ wr.heap.size := by have h5 := HN.out; omega
      by_cases hlt : k < n
      · have hkL : k < L.length := by have h5 := HNL.out; omega
        have i3 : (k : Int) < (n : Int) := by omega
        have i0' : (0 : Int) ≤ (k : Int) := by omega
        obtain ⟨lo', lc', e', hrn⟩ := rdn_own HOR.out HNL.out
        cases e'
        obtain ⟨a, rfl, ha, a0⟩ := hrn k L[k] (List.getElem?_eq_getElem hkL)
        have HAT := hid (nwF_at k U S L k L[k] (List.getElem?_eq_getElem hkL))
        have HSD := hid (sumL_drop L k L[k] (List.getElem?_eq_getElem hkL))
        have hxl := HLM.out L[k] (List.getElem_mem hkL)
        obtain ⟨x, hx⟩ : ∃ x, x = L[k] := ⟨_, rfl⟩
        rw [← hx] at a0 HAT HSD hxl
        have HTS := hid (dcS_tot U D x)
        obtain ⟨q1, q2⟩ := dc_rd U S D x HBO.out
        have hU0 : 1 ≤ U.length := (List.getElem?_eq_some_iff.1 HBO.out.good.1).1
        have HLN := hid (rline_any N (N + 2) U D nv sv vs x wr HDO.out hNr (by omega) HBO.out.len hU0 HBO.out.rel.1 (fun y hy => by have h5 := tot_mem D y hy; have h6 := HTO.out; omega))
        have HQ2 := hid q2
        have HQ1 := hid q1
        rw [q1] at HLN
        clear q1 q2 hrn hx hkL
        obtain ⟨er, her⟩ : ∃ er, er = (rdS U S x).1 := ⟨_, rfl⟩
        have HER := hid her
        rw [← her] at HLN HQ2 HAT
        clear her
        by_cases he : er = 0
        · have HN5 := hid (show nw t = _ by rw [HE.out, HAT.out, if_pos he])
          obtain ⟨HU2, HB2⟩ := HQ2.out he
          rw [HU2] at HLN
          subst he
          go_wp2_with fail
          refine HLN.out.mono ?_
          rintro e w5 ⟨rfl, b5, hok⟩
          obtain ⟨nv', sv', vs', d5, f5⟩ := hok (by first | rfl | trivial)
          have HD5 := hid d5
          have HB5 := hid (HBr.out.trans b5)
          have HO5 := hid (row_keep HOR.out (fun y hy => f5.st y (HOR.out.lt y hy).2 (fun e => by subst e; exact row_other HOR.out _ _ 79 HDO.out.hQ (by decide) hy) (HNE.out y hy) (fun cs f e => by obtain ⟨c, hc⟩ := row_blk HOR.out hy; rw [hc] at e; cases e)))
          have HN6 := hid (show ∀ y, (Value.slice (some a) n lc).ownBlock = some y → nv'.ownBlock ≠ some y from fun y hy he => by
            rcases f5.nw y he with h5 | h5
            · exact HNE.out y hy h5
            · have h6 := (HOR.out.lt y hy).2; omega)
          have HB3 := hid HB2
          have HT5 := hid (show tot (dcS U D x).2.2 + sumL (L.drop (k + 1)) ≤ t.length by have h5 := HTO.out; have h6 := HSD.out; have h7 := HTS.out; omega)
          clear hok d5 f5 b5 HLN HAT
          go_wp2
          go_roundw
          case rel => exact ⟨k + 1, _, _, _, nv', sv', vs', by go_num, by omega, HN5, HB3, HT5, HD5, HO5, HN6, HB5⟩
          case measure => simp [intOf]; omega
        · have HN5 := hid (show nw t = ((er, k + 1), U, S) by rw [HE.out, HAT.out, if_neg he])
          have he' : (er != 0) = true := bne_iff_ne.2 he
          have HNZ := hid he
          clear he
          go_wp2_with fail
          refine HLN.out.mono ?_
          rintro e w5 ⟨rfl, b5, hok⟩
          have HB5 := hid (HBr.out.trans b5)
          clear hok b5 HLN HAT
          go_wp2
          go_ret3
          rw [HN5.out]
          exact ⟨by rw [← HN.out]; exact HB5.out, .inl ⟨HNZ.out, by go_num⟩⟩
      · have i3 : ¬ (k : Int) < (n : Int) := by omega
        have HN5 := hid (show nw t = ((0, 0), U, S) by rw [HE.out, List.drop_of_length_le (by have h5 := HNL.out; omega)]; rfl)
        have hU0 : 1 ≤ U.length := (List.getElem?_eq_some_iff.1 HBO.out.good.1).1
        have hDU := HBO.out.rel.1
        have hU64 := HBO.out.len
        obtain ⟨g1, g2, g3, g4⟩ := whl_good U S HBO.out.good HBO.out.rs
        have HFI := hid (drel_fin U.length S D hU0 HBO.out.rs HBO.out.good.2 g1 g2 HBO.out.rel)
        have HRE := hid (rrest_any N (N + 2) U D nv sv vs wr HDO.out hNr (by omega) (by omega) (by have h5 := tot_drop D; have h6 := HTO.out; omega))
        rw [HFI.out] at HRE
        clear g1 g2 g3 g4 HFI hDU
        go_wp2_with fail
        refine HRE.out.mono ?_
        rintro e w5 ⟨rfl, b5, sv', vs', d5⟩
        have HD5 := hid d5
        have HB5 := hid (HBr.out.trans b5)
        clear d5 b5 HRE
        go_wp2
        go_ret3
        rw [HN5.out]
        exact ⟨by rw [← HN.out]; exact HB5.out, .inr ⟨rfl, N + 2, nv, sv', vs', by go_num, by rw [← HN.out]; exact HD5.out⟩⟩
end Go.Proofs.YtohhokjlgihbgaaGreatDoor
/- The contracts of the document's Get and Set. -/
namespace Go.Proofs.YtohhokjlgihbgaaGreatDoor
open Go.RowKit

theorem gtp_lt (A : List Tr) (n : Nat) (hC : Cov 0 A 1114112) (hc : ∀ g ∈ A, g.2.2 < n) (r : Int) (h0 : 0 ≤ r) (h1 : r ≤ 1114111) : gtp r A < n := by
  obtain ⟨g, hg, h3, h4⟩ := cov_ex A 0 1114112 r hC (by omega) (by omega)
  rw [gtp_in A 0 _ r g hC hg h3 h4]
  exact hc g hg
theorem instd_in (r : Int) : 0 ≤ instd r ∧ instd r ≤ 1114111 := by
  unfold instd
  split <;> omega
set_option maxRecDepth 100000 in
set_option maxHeartbeats 2000000 in
theorem rget_any (B Q n : Nat) (U : List (List UInt8)) (A : List Tr) (nv sv : Value) (vs : List Value) (r : Int) (w : World) (h : DocAt B Q U (dst n A) nv sv vs w) (hC : Cov 0 A 1114112) (hc : ∀ g ∈ A, g.2.2 < n) (hn : n ≤ 1000) (hl : A.length ≤ 10000000) :
    Calls Tryz.prog 45 #[.pointer (some ⟨Q, 0, none⟩), .int .i32 r] w fun e w' => e = .returned (.int .i64 (gtp (instd r) A : Nat)) ∧ w' = w := by
  obtain ⟨i1, i2⟩ := instd_in r
  have HAS := hid (fun k : Nat => has_stc A hC (instd r) k i1 i2)
  have HGN := hid (gtp_lt A n hC hc (instd r) i1 i2)
  obtain ⟨G, hG⟩ : ∃ G, G = gtp (instd r) A := ⟨_, rfl⟩
  rw [← hG] at HAS HGN ⊢
  have hn1 : 1 ≤ n := by have h5 := HGN.out; omega
  obtain ⟨so, sc, rfl, hrd⟩ := h.rd
  have HRD := hid hrd
  have c1 := h.c1
  rw [dst_len] at c1
  clear h hrd hG i1 i2 hC hc
  by_cases h1 : r < 0
  · have HI := hid (show instd r = 65533 by unfold instd; rw [if_pos (.inl h1)])
    rw [HI.out] at HAS
    clear HI
    go_enter Tryz.func45, Tryz.ntmps45
    go_wp2
    go_loopw [5] (fun x wr => ∃ k : Nat, 1 ≤ k ∧ k ≤ n ∧ x = .int .i64 (k : Int) ∧ Hid (∀ j, 1 ≤ j → j < k → G ≠ j) ∧ wr = w) (fun x _ => n - (intOf x).toNat)
    case atStart => exact ⟨1, by omega, by omega, rfl, fun j h1 h2 => by omega, rfl⟩
    case round =>
      obtain ⟨k, hk1, hk, rfl, HJ, hw⟩ := hrel
      subst hw
      by_cases hlt : k < n
      · have i3 : (k : Int) < (n : Int) := by omega
        have i0' : (0 : Int) ≤ (k : Int) := by omega
        obtain ⟨a, rfl, ha, ao, ac, a0, hra, _⟩ := HRD.out k (stc (k : Int) A) (dst_at n A k hlt)
        have HH := hid (rhas_any ao ac (stc (k : Int) A) 65533 wr hra (by have h5 := stc_len (k : Int) A; omega))
        rw [HAS.out k] at HH
        generalize (stc (k : Int) A).length = nx at *
        by_cases hG : G = k
        · rw [decide_eq_true hG] at HH
          have HG := hid hG
          clear hG hra
          go_wp2_with fail
          refine HH.out.mono ?_
          rintro e w2 ⟨rfl, hw⟩
          obtain rfl := hw.symm
          clear HH
          go_wp2
          go_ret
          exact ⟨by rw [HG.out]; rfl, rfl⟩
        · rw [decide_eq_false hG] at HH
          have HZ := hid (show ∀ j, 1 ≤ j → j < k + 1 → G ≠ j from fun j h1 h2 => by
            by_cases h5 : j < k
            · exact HJ.out j h1 h5
            · have h6 : j = k := by omega
              rw [h6]; exact hG)
          clear hG hra
          go_wp2_with fail
          refine HH.out.mono ?_
          rintro e w2 ⟨rfl, hw⟩
          obtain rfl := hw.symm
          clear HH
          go_wp2
          go_roundw
          case rel => exact ⟨k + 1, by omega, by omega, by go_num, HZ, trivial⟩
          case measure => simp [intOf]; omega
      · have i3 : ¬ (k : Int) < (n : Int) := by omega
        have HG := hid (show G = 0 by
          apply Classical.byContradiction
          intro h5
          exact HJ.out G (by omega) (by have h6 := HGN.out; omega) rfl)
        go_wp2
        go_ret
        exact ⟨by rw [HG.out]; rfl, rfl⟩
  by_cases h2 : 1114111 < r
  · have HI := hid (show instd r = 65533 by unfold instd; rw [if_pos (.inr h2)])
    rw [HI.out] at HAS
    clear HI
    go_enter Tryz.func45, Tryz.ntmps45
    go_wp2
    go_loopw [5] (fun x wr => ∃ k : Nat, 1 ≤ k ∧ k ≤ n ∧ x = .int .i64 (k : Int) ∧ Hid (∀ j, 1 ≤ j → j < k → G ≠ j) ∧ wr = w) (fun x _ => n - (intOf x).toNat)
    case atStart => exact ⟨1, by omega, by omega, rfl, fun j h1 h2 => by omega, rfl⟩
    case round =>
      obtain ⟨k, hk1, hk, rfl, HJ, hw⟩ := hrel
      subst hw
      by_cases hlt : k < n
      · have i3 : (k : Int) < (n : Int) := by omega
        have i0' : (0 : Int) ≤ (k : Int) := by omega
        obtain ⟨a, rfl, ha, ao, ac, a0, hra, _⟩ := HRD.out k (stc (k : Int) A) (dst_at n A k hlt)
        have HH := hid (rhas_any ao ac (stc (k : Int) A) 65533 wr hra (by have h5 := stc_len (k : Int) A; omega))
        rw [HAS.out k] at HH
        generalize (stc (k : Int) A).length = nx at *
        by_cases hG : G = k
        · rw [decide_eq_true hG] at HH
          have HG := hid hG
          clear hG hra
          go_wp2_with fail
          refine HH.out.mono ?_
          rintro e w2 ⟨rfl, hw⟩
          obtain rfl := hw.symm
          clear HH
          go_wp2
          go_ret
          exact ⟨by rw [HG.out]; rfl, rfl⟩
        · rw [decide_eq_false hG] at HH
          have HZ := hid (show ∀ j, 1 ≤ j → j < k + 1 → G ≠ j from fun j h1 h2 => by
            by_cases h5 : j < k
            · exact HJ.out j h1 h5
            · have h6 : j = k := by omega
              rw [h6]; exact hG)
          clear hG hra
          go_wp2_with fail
          refine HH.out.mono ?_
          rintro e w2 ⟨rfl, hw⟩
          obtain rfl := hw.symm
          clear HH
          go_wp2
          go_roundw
          case rel => exact ⟨k + 1, by omega, by omega, by go_num, HZ, trivial⟩
          case measure => simp [intOf]; omega
      · have i3 : ¬ (k : Int) < (n : Int) := by omega
        have HG := hid (show G = 0 by
          apply Classical.byContradiction
          intro h5
          exact HJ.out G (by omega) (by have h6 := HGN.out; omega) rfl)
        go_wp2
        go_ret
        exact ⟨by rw [HG.out]; rfl, rfl⟩
  · have HI := hid (show instd r = r by unfold instd; rw [if_neg (by omega)])
    rw [HI.out] at HAS
    clear HI
    go_enter Tryz.func45, Tryz.ntmps45
    go_wp2
    go_loopw [5] (fun x wr => ∃ k : Nat, 1 ≤ k ∧ k ≤ n ∧ x = .int .i64 (k : Int) ∧ Hid (∀ j, 1 ≤ j → j < k → G ≠ j) ∧ wr = w) (fun x _ => n - (intOf x).toNat)
    case atStart => exact ⟨1, by omega, by omega, rfl, fun j h1 h2 => by omega, rfl⟩
    case round =>
      obtain ⟨k, hk1, hk, rfl, HJ, hw⟩ := hrel
      subst hw
      by_cases hlt : k < n
      · have i3 : (k : Int) < (n : Int) := by omega
        have i0' : (0 : Int) ≤ (k : Int) := by omega
        obtain ⟨a, rfl, ha, ao, ac, a0, hra, _⟩ := HRD.out k (stc (k : Int) A) (dst_at n A k hlt)
        have HH := hid (rhas_any ao ac (stc (k : Int) A) r wr hra (by have h5 := stc_len (k : Int) A; omega))
        rw [HAS.out k] at HH
        generalize (stc (k : Int) A).length = nx at *
        by_cases hG : G = k
        · rw [decide_eq_true hG] at HH
          have HG := hid hG
          clear hG hra
          go_wp2_with fail
          refine HH.out.mono ?_
          rintro e w2 ⟨rfl, hw⟩
          obtain rfl := hw.symm
          clear HH
          go_wp2
          go_ret
          exact ⟨by rw [HG.out]; rfl, rfl⟩
        · rw [decide_eq_false hG] at HH
          have HZ := hid (show ∀ j, 1 ≤ j → j < k + 1 → G ≠ j from fun j h1 h2 => by
            by_cases h5 : j < k
            · exact HJ.out j h1 h5
            · have h6 : j = k := by omega
              rw [h6]; exact hG)
          clear hG hra
          go_wp2_with fail
          refine HH.out.mono ?_
          rintro e w2 ⟨rfl, hw⟩
          obtain rfl := hw.symm
          clear HH
          go_wp2
          go_roundw
          case rel => exact ⟨k + 1, by omega, by omega, by go_num, HZ, trivial⟩
          case measure => simp [intOf]; omega
      · have i3 : ¬ (k : Int) < (n : Int) := by omega
        have HG := hid (show G = 0 by
          apply Classical.byContradiction
          intro h5
          exact HJ.out G (by omega) (by have h6 := HGN.out; omega) rfl)
        go_wp2
        go_ret
        exact ⟨by rw [HG.out]; rfl, rfl⟩
theorem stc_none (A : List Tr) (n : Nat) (hc : ∀ g ∈ A, g.2.2 < n) (c : Int) (h : c < 0 ∨ (n : Int) ≤ c) : stc c A = [] := by
  unfold stc
  rw [List.filter_eq_nil_iff.2 (fun g hg => by have h5 := hc g hg; simp; omega)]
  rfl
set_option maxRecDepth 100000 in
set_option maxHeartbeats 2000000 in
theorem rset_any (B Q n : Nat) (U : List (List UInt8)) (A : List Tr) (nv sv : Value) (vs : List Value) (c : Int) (w : World) (h : DocAt B Q U (dst n A) nv sv vs w) (hc : ∀ g ∈ A, g.2.2 < n) (hl : A.length ≤ 1000000) :
    Calls Tryz.prog 44 #[.pointer (some ⟨Q, 0, none⟩), .int .i64 c] w fun e w' => ∃ v, e = .returned v ∧ w'.ownsRow w.heap.size 84 2 v (stc c A).length (rgcs (stc c A)) ∧ Below w.heap.size w w' := by
  obtain ⟨i0, hi, hz0, hz1, hz2⟩ := info_parts Tryz.info84
  obtain ⟨so, sc, rfl, hrd⟩ := h.rd
  have HRD := hid hrd
  have c1 := h.c1
  have hQ := lt_of_heap h.hQ
  rw [dst_len] at c1
  clear h hrd
  by_cases h1 : c < 0
  · have HE := hid (stc_none A n hc c (.inl h1))
    clear hc
    go_enter Tryz.func44, Tryz.ntmps44
    go_wp2
    go_ret
    exact ⟨_, rfl, by rw [HE.out]; exact World.ownsRow_nil _ _ _ _, Below.refl _ _⟩
  by_cases h2 : (n : Int) ≤ c
  · have HE := hid (stc_none A n hc c (.inr h2))
    clear hc
    go_enter Tryz.func44, Tryz.ntmps44
    go_wp2
    go_ret
    exact ⟨_, rfl, by rw [HE.out]; exact World.ownsRow_nil _ _ _ _, Below.refl _ _⟩
  · obtain ⟨k, rfl⟩ : ∃ k : Nat, c = (k : Int) := ⟨c.toNat, by omega⟩
    have hk : k < n := by omega
    have i3 : (k : Int) < (n : Int) := by omega
    have hln := stc_len (k : Int) A
    have o0 := row_empty w 84 2
    have hB0 := (Below.refl w.heap.size w).alloc (Nat.le_refl _) (.cells #[] 84)
    obtain ⟨a, rfl, ha, ao, ac, a0, hra, hna⟩ := HRD.out k (stc (k : Int) A) (dst_at n A k hk)
    have HRA := hid (hra.below hB0)
    have HNA := hid hna
    have HO0 := hid o0
    have HB0 := hid hB0
    have i0' : (0 : Int) ≤ (k : Int) := by omega
    have c1' := (hB0.cell (p := ⟨Q, 1, none⟩) hQ).trans c1
    have a0' := (hB0.cell (p := a.add k) (by rw [add_blk]; exact ha)).trans a0
    generalize stc (k : Int) A = x at *
    clear o0 hB0 hra hna hc HRD
    go_enter Tryz.func44, Tryz.ntmps44
    go_wp2_with (at_builtin; refine wpList_append_rg rfl _ _ 47 rfl w.heap.size 84 i0 (.agg #[.int .i32 0, .int .i32 0]) 8 Tryz.underlying47 hi hz0 hz1 hz2 (by rfl) (.slice (some ⟨w.heap.size, 0, none⟩) 0 0) 0 [] (by rfl) HO0.out ao ac x rfl HNA.out HRA.out (by unfold maxLen; omega) (by omega) (by simp) ?_; intro v1 w1 o1 gr1; have HB1 := hid (HB0.out.grown gr1 (by simp) (fun k hk => (HO0.out.lt k hk).1)); have HO1 := hid (show w1.ownsRow w.heap.size 84 2 v1 x.length (rgcs x) by simpa using o1); clear o1 gr1)
    go_ret
    exact ⟨_, rfl, HO1.out, HB1.out⟩
end Go.Proofs.YtohhokjlgihbgaaGreatDoor
/- The contract of the document's Text, and of ranged (package kerflaw04) at two lists that are the same. -/
namespace Go.Proofs.YtohhokjlgihbgaaGreatDoor
open Go.RowKit

set_option maxRecDepth 100000 in
set_option maxHeartbeats 2000000 in
theorem rtext_any (B Q : Nat) (U : List (List UInt8)) (A : List Tr) (nv sv : Value) (vs : List Value) (w : World) (h : DocAt B Q U (dst U.length A) nv sv vs w) (hU : 1 ≤ U.length) (hU2 : U.length ≤ 1000) (hb : ∀ b ∈ U, b.length ≤ 1000) (hst : ∀ c : Int, (stc c A).length ≤ 40000) (hnf : ∀ c : Nat, nf (stc (c : Int) A)) :
    Calls Tryz.prog 43 #[.pointer (some ⟨Q, 0, none⟩)] w fun e w' => e = .returned (.string ⟨(tx4 A U U.length).toArray⟩) ∧ Below w.heap.size w w' := by
  have HTL := hid (tx4_len A U hb hst)
  have HDO := hid h
  obtain ⟨no, nc, rfl, hrn⟩ := rdn_own h.hN rfl
  obtain ⟨so, sc, rfl, hrd⟩ := h.rd
  have c0 := h.c0
  have c1 := h.c1
  have hQ := lt_of_heap h.hQ
  have HRD := hid hrd
  have HRN := hid hrn
  have HNF := hid hnf
  have HST := hid hst
  have HBL := hid hb
  obtain ⟨n, hn⟩ : ∃ n, n = U.length := ⟨_, rfl⟩
  have HN := hid hn
  rw [dst_len] at c1
  rw [← hn] at c0 c1 hU hU2 HRD ⊢
  clear h hrn hrd hnf hst hb hn
  go_enter Tryz.func43, Tryz.ntmps43
  go_wp2
  go_loopw [3, 4, 5] (fun v x _ wr => ∃ k : Nat, 1 ≤ k ∧ k ≤ n ∧ v = .string ⟨(tx4 A U k).toArray⟩ ∧ x = .int .i64 (k : Int) ∧ Hid (Below w.heap.size w wr)) (fun _ x _ _ => n - (intOf x).toNat)
  case atStart => exact ⟨1, by omega, by omega, rfl, rfl, Below.refl _ _⟩
  case round =>
    obtain ⟨k, hk1, hk, rfl, rfl, HBr⟩ := hrel
    have d0 := (HBr.out.cell (p := ⟨Q, 0, none⟩) hQ).trans c0
    have d1 := (HBr.out.cell (p := ⟨Q, 1, none⟩) hQ).trans c1
    by_cases hlt : k < n
    · have hkU : k < U.length := by have h5 := HN.out; omega
      have i3 : (k : Int) < (n : Int) := by omega
      have i0' : (0 : Int) ≤ (k : Int) := by omega
      obtain ⟨a, rfl, ha, ao, ac, a0, hra, hna⟩ := HRD.out.below HBr.out k (stc (k : Int) A) (dst_at n A k hlt)
      have HBN := hid (show ∀ W, Below w.heap.size w W → ∃ b, no = some b ∧ b.block < W.heap.size ∧ W.cell? (b.add k) = some (.string ⟨U[k].toArray⟩) from fun W hW => HRN.out.below hW k U[k] (List.getElem?_eq_getElem hkU))
      have HPR := hid (rprint_any ao ac (stc (k : Int) A) wr hra (HST.out _))
      have HNR := hid (nrm_self _ (HNF.out k))
      have hpl := prt_len (nrm (stc (k : Int) A))
      have hpl2 := HST.out (k : Int)
      rw [HNR.out] at HPR hpl
      have HX := hid (show tx4 A U (k + 1) = tx4 A U k ++ ((if stc (k : Int) A = [] then [] else prt (stc (k : Int) A) ++ [32]) ++ ([59, 32] ++ U[k] ++ [10])) by
        show tx4 A U k ++ tx1 A k (U.getD k []) = _
        unfold tx1
        rw [if_neg (by omega), HNR.out, show U.getD k [] = U[k] by simp [List.getD, hkU]])
      have hul := HBL.out U[k] (List.getElem_mem hkU)
      have hxl := HTL.out k
      obtain ⟨u, hu⟩ : ∃ u, u = U[k] := ⟨_, rfl⟩
      rw [← hu] at HBN HX hul
      obtain ⟨y, hy⟩ : ∃ y, y = tx4 A U k := ⟨_, rfl⟩
      rw [← hy] at HX hxl ⊢
      obtain ⟨x, hx⟩ : ∃ x, x = stc (k : Int) A := ⟨_, rfl⟩
      rw [← hx] at HPR HX hpl hpl2 a0
      have hyl : y.length ≤ 800000000 := by have h5 : k * 800000 ≤ 1000 * 800000 := Nat.mul_le_mul_right _ (by omega); omega
      have HP0 := hid (prt_nil_iff x)
      obtain ⟨p, hp⟩ : ∃ p, p = prt x := ⟨_, rfl⟩
      rw [← hp] at HPR HX hpl HP0
      have hpl3 : p.length ≤ 800000 := by omega
      clear hu hy hx hp hra hna HNR hkU hxl
      go_wp2_with fail
      refine HPR.out.mono ?_
      rintro e w2 ⟨rfl, b2⟩
      have HB2 := hid (HBr.out.trans (b2.mono HBr.out.size))
      have e0 := (HB2.out.cell (p := ⟨Q, 0, none⟩) hQ).trans c0
      obtain ⟨b, rfl, hbb, b0⟩ := HBN.out w2 HB2.out
      clear b2 HPR d0 d1 a0
      by_cases hx0 : x = []
      · have hp0 := HP0.out.2 hx0
        rw [if_pos hx0] at HX
        clear hx0 HP0
        subst hp0
        go_wp2
        go_roundw
        case rel => exact ⟨k + 1, by omega, by omega, by rw [HX.out]; refine congrArg Value.string ?_; apply ByteArray.ext; simp, by go_num, HB2⟩
        case measure => simp [intOf]; omega
      · have hp0 : p.isEmpty = false := by
          cases p with
          | nil => exact absurd (HP0.out.1 rfl) hx0
          | cons => rfl
        rw [if_neg hx0] at HX
        clear hx0 HP0
        go_wp2
        go_roundw
        case rel => exact ⟨k + 1, by omega, by omega, by rw [HX.out]; refine congrArg Value.string ?_; apply ByteArray.ext; simp, by go_num, HB2⟩
        case measure => simp [intOf]; omega
    · have i3 : ¬ (k : Int) < (n : Int) := by omega
      have hkn : k = n := by omega
      subst hkn
      go_wp2
      go_ret
      exact ⟨rfl, HBr.out⟩
set_option maxRecDepth 100000 in
theorem ranged_same (ao bo : Option Addr) (ac bc n : Nat) (L : List Rk) (w : World) (ha : RdK w ao L) (hb : RdK w bo L) (hn : n = L.length) (hl : n ≤ 10000000) :
    Calls Tryz.prog 41 #[.slice ao n ac, .slice bo n bc] w fun e w' => e = .returned (.bool true) ∧ Below w.heap.size w w' := by
  have HA := hid ha
  have HB := hid hb
  have HN := hid hn
  clear ha hb hn
  go_enter Tryz.func41, Tryz.ntmps41
  go_wp2
  go_loopw [5] (fun i wr => ∃ k : Nat, k ≤ n ∧ i = .int .i64 k ∧ Below w.heap.size w wr) (fun i _ => n - (intOf i).toNat)
  case atStart => exact ⟨0, by omega, rfl, Below.refl _ _⟩
  case round =>
    obtain ⟨k, hk, rfl, hBr⟩ := hrel
    by_cases hlt : k < n
    · have hltU : k < L.length := by have := HN.out; omega
      obtain ⟨a, rfl, ha, a0, a1, a2⟩ := HA.out.below hBr k L[k] (List.getElem?_eq_getElem hltU)
      obtain ⟨b, rfl, hb, b0, b1, b2⟩ := HB.out.below hBr k L[k] (List.getElem?_eq_getElem hltU)
      generalize L[k].1 = z0 at *
      generalize L[k].2.1 = z1 at *
      generalize L[k].2.2 = z2 at *
      clear hltU
      go_wp2_with fail
      go_region
      go_wp2
      go_roundw
      case rel => exact ⟨k + 1, by omega, by go_num, hBr.drew⟩
      case measure => simp [intOf]; omega
    · go_wp2
      go_ret
      exact ⟨rfl, hBr⟩
end Go.Proofs.YtohhokjlgihbgaaGreatDoor
