/- The walk of WidthJoins. -/
import Derived.Test.YtlfegdpclappiaaDoorWtMath
import Derived.Test.YtlfegdpclappiaaDoorGrAro
import Derived.Test.YtlfegdpclappiaaDoorGrCnt
import Derived.Test.YtlfegdpclappiaaDoorLiveRun
namespace Go.Proofs.YtlfegdpclappiaaDoor
open Go.RowKit

theorem wcat (a b : List UInt8) : (⟨a.toArray⟩ ++ ⟨b.toArray⟩ : ByteArray) = ⟨(a ++ b).toArray⟩ := by
  apply ByteArray.ext
  simp
theorem tbs_below {w w' : World} (h : Ev.Tbs tabs w) (hb : Below w.heap.size w w') : Ev.Tbs tabs w' := fun x hx => by
  obtain ⟨c, h1, h2⟩ := h x hx
  exact ⟨c, (hb.block _ (Array.getElem?_eq_some_iff.1 h1).1).trans h1, h2⟩
theorem mix_skip {P : Program} {ops : Array Oper} {Q : Exit → Act → World → Prop} {S : World → Prop} {fin : Nat → Bool} {o : Oper} {k : Nat} {r : List (Nat × Bool)} {a : Act} {w : World} (h0 : ops[k]? = some o) (hw : Region.wanted o (yielded ops a.tmps) = false) (hS : fin k = false → S w) (h : wpMix P ops Q S fin r (a.put o.dst undef) w) : wpMix P ops Q S fin ((k, false) :: r) a w := by
  refine ⟨o, h0, ?_⟩
  rw [if_neg (by rw [hw]; decide)]
  exact ⟨hS, h⟩
theorem wnum_any (z : Int) (w : World) : Calls Tryd.prog 17 #[.int .i64 z] w fun e w' => e = .returned (.int .i64 z) ∧ w' = w := by
  go_enter Tryd.func17, Tryd.ntmps17
  go_wp2
  go_ret
  exact ⟨rfl, rfl⟩
/-- A struct of three numbers in memory. -/
def Cel (w : World) (B : Nat) (a t s : Int) : Prop := w.cell? ⟨B, 0, none⟩ = some (.int .i64 a) ∧ w.cell? ⟨B, 1, none⟩ = some (.int .i64 t) ∧ w.cell? ⟨B, 2, none⟩ = some (.int .i64 s)
theorem cel_cells {w : World} {B : Nat} {a t s : Int} (h : w.heap[B]? = some (.cells #[.int .i64 a, .int .i64 t, .int .i64 s] 36 (0, 0))) : Cel w B a t s :=
  ⟨by simp [World.cell?, h], by simp [World.cell?, h], by simp [World.cell?, h]⟩
theorem Cel.kept {w w' : World} {B : Nat} {a t s : Int} (h : Cel w B a t s) (hb : Below w.heap.size w w') (hB : B < w.heap.size) : Cel w' B a t s :=
  ⟨(hb.cell (p := ⟨B, 0, none⟩) hB).trans h.1, (hb.cell (p := ⟨B, 1, none⟩) hB).trans h.2.1, (hb.cell (p := ⟨B, 2, none⟩) hB).trans h.2.2⟩
theorem set_three {w : World} {B : Nat} {a t s : Int} (h : w.heap[B]? = some (.cells #[.int .i64 a, .int .i64 t, .int .i64 s] 36 (0, 0))) (c : Int) : (w.setCell ⟨B, 2, none⟩ (.int .i64 c)).heap[B]? = some (.cells #[.int .i64 a, .int .i64 t, .int .i64 c] 36 (0, 0)) := by
  obtain ⟨hlt, hk⟩ := Array.getElem?_eq_some_iff.1 h
  show (w.heap.modify B _)[B]? = _
  rw [Array.getElem?_eq_getElem (by rw [Array.size_modify]; exact hlt), Array.getElem_modify_self, hk]
  rfl
set_option maxHeartbeats 8000000 in
set_option maxRecDepth 100000 in
theorem joins_main (s u : List UInt8) (a t st : Int) (w : World) (hls : s.length ≤ 281474976710656) (hlu : u.length ≤ 281474976710656) (htb : Ev.Tbs tabs w) (ht : TbW w) :
    Calls Tryd.prog 5 #[.string ⟨s.toArray⟩, .string ⟨u.toArray⟩, .agg #[.int .i64 a, .int .i64 t, .int .i64 st]] w fun e w' => e = .returned (.bool true) ∧ Below w.heap.size w w' := by
  have HT := hid ht
  have HTB := hid htb
  have hB0 : Below w.heap.size w (w.alloc (.cells #[.int .i64 a, .int .i64 t, .int .i64 st] 36)) := (Below.refl _ _).alloc (Nat.le_refl _) _
  have hbx : (w.alloc (.cells #[.int .i64 a, .int .i64 t, .int .i64 st] 36)).heap[w.heap.size]? = some (.cells #[.int .i64 a, .int .i64 t, .int .i64 st] 36 (0, 0)) := World.alloc_heap_new w _
  have hsz0 : (w.alloc (.cells #[.int .i64 a, .int .i64 t, .int .i64 st] 36)).heap.size = w.heap.size + 1 := by simp
  have HLV := hid (fun W (h : Below w.heap.size w W) => lives_width W (tbs_below HTB.out h))
  have HTT := hid (fun W (h : Below w.heap.size w W) => HT.out.below h)
  have HCAT := hid (wcat s u)
  clear ht htb
  go_enter Tryd.func5, Tryd.ntmps5
  by_cases hbig : 100 < s.length + u.length
  · have hbi : (100 : Int) < (s.length : Int) + (u.length : Int) := by omega
    go_wp2_with fail
    refine (HLV.out _ hB0).mono ?_
    rintro e w1 ⟨rfl, be⟩
    have HB := hid (hB0.trans (be.mono hB0.size))
    clear be
    go_wp2
    go_ret
    exact ⟨rfl, HB.out⟩
  have hbi : ¬ (100 : Int) < (s.length : Int) + (u.length : Int) := by omega
  have hsl : s.length ≤ 100 := by omega
  have hul : u.length ≤ 100 := by omega
  clear hbig
  go_wp2_with fail
  obtain ⟨w0, hw0⟩ : ∃ w0, w0 = w.alloc (.cells #[.int .i64 a, .int .i64 t, .int .i64 st] 36) := ⟨_, rfl⟩
  rw [← hw0] at hB0 hbx hsz0 ⊢
  clear hw0
  refine (wcheck_any a t st w0).mono ?_
  rintro e w1 ⟨rfl, be1⟩
  obtain ⟨k, hk⟩ : ∃ k, k = chkE a t st := ⟨_, rfl⟩
  have HK := hid hk
  rw [← hk]
  have HB1 := hid (hB0.trans (be1.mono hB0.size))
  have hbx1 := (be1.block w.heap.size (by omega)).trans hbx
  clear be1 hbx hsz0 hB0 hk
  go_wp2_with fail
  refine (wnum_any k w1).mono ?_
  rintro e w2 ⟨rfl, hw2⟩
  obtain rfl := hw2.symm
  clear hw2
  by_cases hk0 : k = 0
  rotate_left
  · have b0 : (k != 0) = true := bne_iff_ne.2 hk0
    clear hk0
    go_wp2_with fail
    refine (HLV.out _ HB1.out).mono ?_
    rintro e w3 ⟨rfl, be⟩
    have HB := hid (HB1.out.trans (be.mono HB1.out.size))
    clear be
    go_wp2
    go_ret
    exact ⟨rfl, HB.out⟩
  subst hk0
  have HOK := hid (show Okc a t st by
    rw [← okc_is]
    have h := HK.out
    unfold chkE at h
    split at h
    · assumption
    · cases h)
  clear HK
  go_wp2_with fail
  rw [HCAT.out]
  refine (gcount_any (s ++ u) w1 (HTT.out _ HB1.out) (by rw [List.length_append]; omega)).mono ?_
  rintro e w3 ⟨rfl, be3⟩
  have HB3 := hid (HB1.out.trans (be3.mono HB1.out.size))
  have hbx3 := (be3.block w.heap.size (Array.getElem?_eq_some_iff.1 hbx1).1).trans hbx1
  obtain ⟨n1, hn1⟩ : ∃ n, n = gcnt (s ++ u) := ⟨_, rfl⟩
  rw [← hn1]
  clear be3 hn1 hbx1 HB1
  go_wp2_with fail
  refine (gcount_any s w3 (HTT.out _ HB3.out) (by omega)).mono ?_
  rintro e w4 ⟨rfl, be4⟩
  have HB4 := hid (HB3.out.trans (be4.mono HB3.out.size))
  have hbx4 := (be4.block w.heap.size (Array.getElem?_eq_some_iff.1 hbx3).1).trans hbx3
  have hc2 : gcnt s ≤ 100 := Nat.le_trans (gcnt_le s) hsl
  obtain ⟨n2, hn2⟩ : ∃ n, n = gcnt s := ⟨_, rfl⟩
  rw [← hn2] at hc2 ⊢
  clear be4 hn2 hbx3 HB3
  go_wp2_with fail
  refine (gcount_any u w4 (HTT.out _ HB4.out) (by omega)).mono ?_
  rintro e w5 ⟨rfl, be5⟩
  have HB5 := hid (HB4.out.trans (be5.mono HB4.out.size))
  have hbx5 := (be5.block w.heap.size (Array.getElem?_eq_some_iff.1 hbx4).1).trans hbx4
  have hc3 : gcnt u ≤ 100 := Nat.le_trans (gcnt_le u) hul
  obtain ⟨n3, hn3⟩ : ∃ n, n = gcnt u := ⟨_, rfl⟩
  rw [← hn3] at hc3 ⊢
  clear be5 hn3 hbx4 HB4
  by_cases hn : (n1 : Int) = (n2 : Int) + (n3 : Int)
  rotate_left
  · have b0 : ((n1 : Int) != (n2 : Int) + (n3 : Int)) = true := bne_iff_ne.2 hn
    clear hn
    go_wp2_with fail
    refine (HLV.out _ HB5.out).mono ?_
    rintro e w6 ⟨rfl, be⟩
    have HB := hid (HB5.out.trans (be.mono HB5.out.size))
    clear be
    go_wp2
    go_ret
    exact ⟨rfl, HB.out⟩
  have b0 : ((n1 : Int) != (n2 : Int) + (n3 : Int)) = false := by rw [hn]; simp
  clear hn
  have hlt5 : w.heap.size < w5.heap.size := (Array.getElem?_eq_some_iff.1 hbx5).1
  have c0 : w5.cell? ⟨w.heap.size, 0, none⟩ = some (.int .i64 a) := by simp [World.cell?, hbx5]
  have c1 : w5.cell? ⟨w.heap.size, 1, none⟩ = some (.int .i64 t) := by simp [World.cell?, hbx5]
  have c2 : w5.cell? ⟨w.heap.size, 2, none⟩ = some (.int .i64 st) := by simp [World.cell?, hbx5]
  by_cases hs0 : 0 < s.length
  · have hs0i : (0 : Int) < (s.length : Int) := by omega
    by_cases hu0 : 0 < u.length
    · have hu0i : (0 : Int) < (u.length : Int) := by omega
      go_wp2_with fail
      rw [HCAT.out]
      refine (gis_any (s ++ u) s.length w5 (HTT.out _ HB5.out) (by rw [List.length_append]; omega) (by rw [List.length_append]; omega)).mono ?_
      rintro e w5' ⟨v, rfl, hG, be5⟩
      have HB5' := hid (HB5.out.trans (be5.mono HB5.out.size))
      have hbx5' := (be5.block w.heap.size hlt5).trans hbx5
      have HG := hid hG
      clear be5 hbx5 HB5 hlt5 c0 c1 c2 hG
      cases v with
      | false =>
        go_wp2_with fail
        refine (HLV.out _ HB5'.out).mono ?_
        rintro e w6 ⟨rfl, be⟩
        have HB := hid (HB5'.out.trans (be.mono HB5'.out.size))
        clear be
        go_wp2
        go_ret
        exact ⟨rfl, HB.out⟩
      | true =>
        have HJ := hid (join_tx s u a t st (.inr (.inr (HG.out.1 rfl))))
        clear HG
        have hlt5 : w.heap.size < w5'.heap.size := (Array.getElem?_eq_some_iff.1 hbx5').1
        have c0 : w5'.cell? ⟨w.heap.size, 0, none⟩ = some (.int .i64 a) := by simp [World.cell?, hbx5']
        have c1 : w5'.cell? ⟨w.heap.size, 1, none⟩ = some (.int .i64 t) := by simp [World.cell?, hbx5']
        have c2 : w5'.cell? ⟨w.heap.size, 2, none⟩ = some (.int .i64 st) := by simp [World.cell?, hbx5']
        go_wp2_with fail
        obtain ⟨w6, hw6⟩ : ∃ w6, w6 = w5'.alloc (.cells #[.int .i64 a, .int .i64 t, .int .i64 st] 36) := ⟨_, rfl⟩
        have hB6 : Below w5'.heap.size w5' w6 := by rw [hw6]; exact (Below.refl _ _).alloc (Nat.le_refl _) _
        have hbp6 : w6.heap[w5'.heap.size]? = some (.cells #[.int .i64 a, .int .i64 t, .int .i64 st] 36 (0, 0)) := by rw [hw6]; exact World.alloc_heap_new w5' _
        have hs6 : w6.heap.size = w5'.heap.size + 1 := by rw [hw6]; simp
        rw [← hw6]
        clear hw6
        have hbb6 := (hB6.block _ hlt5).trans hbx5'
        have HB6 := hid (HB5'.out.trans (hB6.mono HB5'.out.size))
        refine (wtext_any s a t st w6 (HTT.out _ HB6.out) (by omega) HOK.out).mono ?_
        rintro e w7 ⟨rfl, be7⟩
        have hcb := colP_bd s a t st HOK.out (gpF s 0) st HOK.out.s1
        have hcn : (gpF s 0).length ≤ 100 := by rw [gpF_0, plc_len]; exact Nat.le_trans (gcnt_le s) hsl
        have hcs := HOK.out.s2
        obtain ⟨c, hc⟩ : ∃ c, c = colP s a t st (gpF s 0) := ⟨_, rfl⟩
        rw [← hc] at HJ hcb ⊢
        have hbb7 := (be7.block _ (by omega)).trans hbb6
        have hbp7 := (be7.block _ (by omega)).trans hbp6
        have HB7 := hid (HB6.out.trans (be7.mono HB6.out.size))
        obtain ⟨N, hN⟩ : ∃ N, N = w.heap.size := ⟨_, rfl⟩
        obtain ⟨M, hM⟩ : ∃ M, M = w5'.heap.size := ⟨_, rfl⟩
        rw [← hM] at hbp7 hlt5 ⊢
        rw [← hN] at hbb7 hlt5 ⊢
        have c6 : w7.cell? ⟨M, 2, none⟩ = some (.int .i64 st) := by simp [World.cell?, hbp7]
        have f6 : w7.frozen? ⟨M, 2, none⟩ = false := by simp [World.frozen?, hbp7]
        have hMw : M < w7.heap.size := (Array.getElem?_eq_some_iff.1 hbp7).1
        have HN := hid hN
        have HBB := hid hbb7
        have HBP := hid hbp7
        have HCM := hid hc
        clear be7 hB6 hbp6 hs6 hbb6 HB6 hN hM hbb7 hbp7 c0 c1 c2 hbx5' HB5' hc hcn
        go_wp2
        have hbb8 : (w7.setCell ⟨M, 2, none⟩ (.int .i64 c)).heap[N]? = some (.cells #[.int .i64 a, .int .i64 t, .int .i64 st] 36 (0, 0)) := (Below.heap_setCell _ _ _ N (by simp; omega)).trans HBB.out
        have hbp8 : (w7.setCell ⟨M, 2, none⟩ (.int .i64 c)).heap[M]? = some (.cells #[.int .i64 a, .int .i64 t, .int .i64 c] 36 (0, 0)) := set_three HBP.out _
        have HB8 := hid (show Below N w (w7.setCell ⟨M, 2, none⟩ (.int .i64 c)) by rw [HN.out]; exact HB7.out.setCell (p := ⟨M, 2, none⟩) (by rw [← HN.out]; simp; omega) _)
        obtain ⟨w8, hw8⟩ : ∃ w8, w8 = w7.setCell ⟨M, 2, none⟩ (.int .i64 c) := ⟨_, rfl⟩
        rw [← hw8] at hbb8 hbp8 HB8 ⊢
        have HCW := hid (cel_cells hbb8)
        have HPW := hid (cel_cells hbp8)
        have hNs : N < w8.heap.size := (Array.getElem?_eq_some_iff.1 hbb8).1
        have hMs : M < w8.heap.size := (Array.getElem?_eq_some_iff.1 hbp8).1
        clear hw8 hbb8 hbp8 HBB HBP HB7 c6 f6 hMw
        have HSK := hid (fun (W : World) (h : Below w8.heap.size w8 W) => And.intro (HCW.out.kept h hNs) (HPW.out.kept h hMs))
        refine wp_region_mix [(0, true), (1, true), (2, true), (3, true), (4, true), (5, true), (6, true), (7, true), (9, true), (10, true), (8, false), (11, false), (12, true), (13, true), (14, true), (15, false), (16, true), (17, false)] (fun w' => Cel w' N a t st ∧ Cel w' M a t c) (fun j => j == 17) (by kernel_rfl) (by kernel_rfl) ?hs1 rfl (by kernel_rfl) (HSK.out _ ((Below.refl _ _).drew)) ?hm1
        case hs1 =>
          intro j hj
          have e : j = 17 := by simpa using hj
          subst e
          decide
        by_cases hbig : 1073741824 < c
        · iterate 4 (refine mix_free ?_ rfl (by kernel_rfl) (fun w' hS => ?_) ?_; (rotate_left; (obtain ⟨⟨s1, s2, s3⟩, s4, s5, s6⟩ := hS; go_simp; with_reducible rfl); rotate_left))
          iterate 6 (refine mix_pass rfl (by kernel_rfl) ?_)
          iterate 2 (refine mix_skip rfl (by kernel_rfl) (fun _ => HSK.out _ ((Below.refl _ _).drew)) ?_)
          refine mix_pass rfl (by kernel_rfl) ?_
          iterate 2 (refine mix_free ?_ rfl (by kernel_rfl) (fun w' hS => ?_) ?_; (rotate_left; (go_simp; with_reducible rfl); rotate_left))
          refine mix_go rfl (by kernel_rfl) fun KK hKK => ?_
          go_simp
          refine (HLV.out _ (by rw [← HN.out]; exact HB8.out.drew)).mono ?_
          rintro e w9 ⟨rfl, be9⟩
          have HB9 := hid (HB8.out.drew.trans (be9.mono (by have := HB8.out.drew.size; rw [HN.out]; exact this)))
          refine hKK _ _ (fun _ => HSK.out _ (((Below.refl _ _).drew).trans be9)) ?_
          clear hKK KK be9
          refine mix_free ?_ rfl (by kernel_rfl) (fun w' hS => ?_) ?_; (rotate_left; (go_simp; with_reducible rfl); rotate_left)
          refine mix_go rfl (by kernel_rfl) fun KK hKK => ?_
          go_simp
          refine hKK _ _ (fun h => by cases h) ?_
          clear hKK KK
          refine mix_end (NoPanic.normal ?_)
          go_wp2
          go_ret
          exact ⟨rfl, by rw [← HN.out]; exact HB9.out⟩
        · have hbg : ¬ 1073741824 < c := hbig
          have HOK2 := hid (show Okc a t c from ⟨HOK.out.a, HOK.out.t1, HOK.out.t2, hcb.1, by omega⟩)
          iterate 6 (refine mix_free ?_ rfl (by kernel_rfl) (fun w' hS => ?_) ?_; (rotate_left; (obtain ⟨⟨s1, s2, s3⟩, s4, s5, s6⟩ := hS; go_simp; with_reducible rfl); rotate_left))
          refine mix_free (.string ⟨(s ++ u).toArray⟩) rfl (by kernel_rfl) (fun w' hS => ?_) ?_
          · go_simp
            rw [HCAT.out, if_neg (by omega)]
          iterate 3 (refine mix_free ?_ rfl (by kernel_rfl) (fun w' hS => ?_) ?_; (rotate_left; (obtain ⟨⟨s1, s2, s3⟩, s4, s5, s6⟩ := hS; go_simp; with_reducible rfl); rotate_left))
          refine mix_go rfl (by kernel_rfl) fun KK hKK => ?_
          go_simp
          have HBd := hid (show Below w.heap.size w w8.drew by rw [← HN.out]; exact HB8.out.drew)
          refine (wtext_any (s ++ u) a t st w8.drew (HTT.out _ HBd.out) (by rw [List.length_append]; omega) HOK.out).mono ?_
          rintro e w9 ⟨rfl, be9⟩
          rw [HJ.out]
          obtain ⟨v, hv⟩ : ∃ v, v = colP u a t c (gpF u 0) := ⟨_, rfl⟩
          rw [← hv]
          have HV := hid hv
          have HB9 := hid (HBd.out.trans (be9.mono HBd.out.size))
          have HE9 := hid (show Below w8.heap.size w8 w9 from ((Below.refl _ _).drew).trans be9)
          refine hKK _ _ (fun _ => HSK.out _ HE9.out) ?_
          clear hKK KK be9 hv
          refine mix_go rfl (by kernel_rfl) fun KK hKK => ?_
          go_simp
          refine (wtext_any u a t c w9 (HTT.out _ HB9.out) (by omega) HOK2.out).mono ?_
          rintro e w10 ⟨rfl, be10⟩
          rw [← HV.out]
          have HB10 := hid (HB9.out.trans (be10.mono HB9.out.size))
          have HE10 := hid (show Below w8.heap.size w8 w10 from HE9.out.trans (be10.mono HE9.out.size))
          refine hKK _ _ (fun _ => HSK.out _ HE10.out) ?_
          clear hKK KK be10
          have vv : (v == v) = true := beq_self_eq_true v
          iterate 3 (refine mix_free ?_ rfl (by kernel_rfl) (fun w' hS => ?_) ?_; (rotate_left; (go_simp; with_reducible rfl); rotate_left))
          refine mix_go rfl (by kernel_rfl) fun KK hKK => ?_
          go_simp
          refine (HLV.out _ HB10.out).mono ?_
          rintro e w11 ⟨rfl, be11⟩
          have HB11 := hid (HB10.out.trans (be11.mono HB10.out.size))
          refine hKK _ _ (fun _ => HSK.out _ (HE10.out.trans (be11.mono HE10.out.size))) ?_
          clear hKK KK be11
          refine mix_free ?_ rfl (by kernel_rfl) (fun w' hS => ?_) ?_; (rotate_left; (go_simp; with_reducible rfl); rotate_left)
          refine mix_go rfl (by kernel_rfl) fun KK hKK => ?_
          go_simp
          refine hKK _ _ (fun h => by cases h) ?_
          clear hKK KK
          refine mix_end (NoPanic.normal ?_)
          go_wp2
          go_ret
          exact ⟨rfl, HB11.out⟩
    · have hu0i : ¬ (0 : Int) < (u.length : Int) := by omega
      have HJ := hid (join_tx s u a t st (.inr (.inl (List.length_eq_zero_iff.1 (by omega)))))
      go_wp2_with fail
      obtain ⟨w6, hw6⟩ : ∃ w6, w6 = w5.alloc (.cells #[.int .i64 a, .int .i64 t, .int .i64 st] 36) := ⟨_, rfl⟩
      have hB6 : Below w5.heap.size w5 w6 := by rw [hw6]; exact (Below.refl _ _).alloc (Nat.le_refl _) _
      have hbp6 : w6.heap[w5.heap.size]? = some (.cells #[.int .i64 a, .int .i64 t, .int .i64 st] 36 (0, 0)) := by rw [hw6]; exact World.alloc_heap_new w5 _
      have hs6 : w6.heap.size = w5.heap.size + 1 := by rw [hw6]; simp
      rw [← hw6]
      clear hw6
      have hbb6 := (hB6.block _ hlt5).trans hbx5
      have HB6 := hid (HB5.out.trans (hB6.mono HB5.out.size))
      refine (wtext_any s a t st w6 (HTT.out _ HB6.out) (by omega) HOK.out).mono ?_
      rintro e w7 ⟨rfl, be7⟩
      have hcb := colP_bd s a t st HOK.out (gpF s 0) st HOK.out.s1
      have hcn : (gpF s 0).length ≤ 100 := by rw [gpF_0, plc_len]; exact Nat.le_trans (gcnt_le s) hsl
      have hcs := HOK.out.s2
      obtain ⟨c, hc⟩ : ∃ c, c = colP s a t st (gpF s 0) := ⟨_, rfl⟩
      rw [← hc] at HJ hcb ⊢
      have hbb7 := (be7.block _ (by omega)).trans hbb6
      have hbp7 := (be7.block _ (by omega)).trans hbp6
      have HB7 := hid (HB6.out.trans (be7.mono HB6.out.size))
      obtain ⟨N, hN⟩ : ∃ N, N = w.heap.size := ⟨_, rfl⟩
      obtain ⟨M, hM⟩ : ∃ M, M = w5.heap.size := ⟨_, rfl⟩
      rw [← hM] at hbp7 hlt5 ⊢
      rw [← hN] at hbb7 hlt5 ⊢
      have c6 : w7.cell? ⟨M, 2, none⟩ = some (.int .i64 st) := by simp [World.cell?, hbp7]
      have f6 : w7.frozen? ⟨M, 2, none⟩ = false := by simp [World.frozen?, hbp7]
      have hMw : M < w7.heap.size := (Array.getElem?_eq_some_iff.1 hbp7).1
      have HN := hid hN
      have HBB := hid hbb7
      have HBP := hid hbp7
      have HCM := hid hc
      clear be7 hB6 hbp6 hs6 hbb6 HB6 hN hM hbb7 hbp7 c0 c1 c2 hbx5 HB5 hc hcn
      go_wp2
      have hbb8 : (w7.setCell ⟨M, 2, none⟩ (.int .i64 c)).heap[N]? = some (.cells #[.int .i64 a, .int .i64 t, .int .i64 st] 36 (0, 0)) := (Below.heap_setCell _ _ _ N (by simp; omega)).trans HBB.out
      have hbp8 : (w7.setCell ⟨M, 2, none⟩ (.int .i64 c)).heap[M]? = some (.cells #[.int .i64 a, .int .i64 t, .int .i64 c] 36 (0, 0)) := set_three HBP.out _
      have HB8 := hid (show Below N w (w7.setCell ⟨M, 2, none⟩ (.int .i64 c)) by rw [HN.out]; exact HB7.out.setCell (p := ⟨M, 2, none⟩) (by rw [← HN.out]; simp; omega) _)
      obtain ⟨w8, hw8⟩ : ∃ w8, w8 = w7.setCell ⟨M, 2, none⟩ (.int .i64 c) := ⟨_, rfl⟩
      rw [← hw8] at hbb8 hbp8 HB8 ⊢
      have HCW := hid (cel_cells hbb8)
      have HPW := hid (cel_cells hbp8)
      have hNs : N < w8.heap.size := (Array.getElem?_eq_some_iff.1 hbb8).1
      have hMs : M < w8.heap.size := (Array.getElem?_eq_some_iff.1 hbp8).1
      clear hw8 hbb8 hbp8 HBB HBP HB7 c6 f6 hMw
      have HSK := hid (fun (W : World) (h : Below w8.heap.size w8 W) => And.intro (HCW.out.kept h hNs) (HPW.out.kept h hMs))
      refine wp_region_mix [(0, true), (1, true), (2, true), (3, true), (4, true), (5, true), (6, true), (7, true), (9, true), (10, true), (8, false), (11, false), (12, true), (13, true), (14, true), (15, false), (16, true), (17, false)] (fun w' => Cel w' N a t st ∧ Cel w' M a t c) (fun j => j == 17) (by kernel_rfl) (by kernel_rfl) ?hs2 rfl (by kernel_rfl) (HSK.out _ ((Below.refl _ _).drew)) ?hm2
      case hs2 =>
        intro j hj
        have e : j = 17 := by simpa using hj
        subst e
        decide
      by_cases hbig : 1073741824 < c
      · iterate 4 (refine mix_free ?_ rfl (by kernel_rfl) (fun w' hS => ?_) ?_; (rotate_left; (obtain ⟨⟨s1, s2, s3⟩, s4, s5, s6⟩ := hS; go_simp; with_reducible rfl); rotate_left))
        iterate 6 (refine mix_pass rfl (by kernel_rfl) ?_)
        iterate 2 (refine mix_skip rfl (by kernel_rfl) (fun _ => HSK.out _ ((Below.refl _ _).drew)) ?_)
        refine mix_pass rfl (by kernel_rfl) ?_
        iterate 2 (refine mix_free ?_ rfl (by kernel_rfl) (fun w' hS => ?_) ?_; (rotate_left; (go_simp; with_reducible rfl); rotate_left))
        refine mix_go rfl (by kernel_rfl) fun KK hKK => ?_
        go_simp
        refine (HLV.out _ (by rw [← HN.out]; exact HB8.out.drew)).mono ?_
        rintro e w9 ⟨rfl, be9⟩
        have HB9 := hid (HB8.out.drew.trans (be9.mono (by have := HB8.out.drew.size; rw [HN.out]; exact this)))
        refine hKK _ _ (fun _ => HSK.out _ (((Below.refl _ _).drew).trans be9)) ?_
        clear hKK KK be9
        refine mix_free ?_ rfl (by kernel_rfl) (fun w' hS => ?_) ?_; (rotate_left; (go_simp; with_reducible rfl); rotate_left)
        refine mix_go rfl (by kernel_rfl) fun KK hKK => ?_
        go_simp
        refine hKK _ _ (fun h => by cases h) ?_
        clear hKK KK
        refine mix_end (NoPanic.normal ?_)
        go_wp2
        go_ret
        exact ⟨rfl, by rw [← HN.out]; exact HB9.out⟩
      · have hbg : ¬ 1073741824 < c := hbig
        have HOK2 := hid (show Okc a t c from ⟨HOK.out.a, HOK.out.t1, HOK.out.t2, hcb.1, by omega⟩)
        iterate 6 (refine mix_free ?_ rfl (by kernel_rfl) (fun w' hS => ?_) ?_; (rotate_left; (obtain ⟨⟨s1, s2, s3⟩, s4, s5, s6⟩ := hS; go_simp; with_reducible rfl); rotate_left))
        refine mix_free (.string ⟨(s ++ u).toArray⟩) rfl (by kernel_rfl) (fun w' hS => ?_) ?_
        · go_simp
          rw [HCAT.out, if_neg (by omega)]
        iterate 3 (refine mix_free ?_ rfl (by kernel_rfl) (fun w' hS => ?_) ?_; (rotate_left; (obtain ⟨⟨s1, s2, s3⟩, s4, s5, s6⟩ := hS; go_simp; with_reducible rfl); rotate_left))
        refine mix_go rfl (by kernel_rfl) fun KK hKK => ?_
        go_simp
        have HBd := hid (show Below w.heap.size w w8.drew by rw [← HN.out]; exact HB8.out.drew)
        refine (wtext_any (s ++ u) a t st w8.drew (HTT.out _ HBd.out) (by rw [List.length_append]; omega) HOK.out).mono ?_
        rintro e w9 ⟨rfl, be9⟩
        rw [HJ.out]
        obtain ⟨v, hv⟩ : ∃ v, v = colP u a t c (gpF u 0) := ⟨_, rfl⟩
        rw [← hv]
        have HV := hid hv
        have HB9 := hid (HBd.out.trans (be9.mono HBd.out.size))
        have HE9 := hid (show Below w8.heap.size w8 w9 from ((Below.refl _ _).drew).trans be9)
        refine hKK _ _ (fun _ => HSK.out _ HE9.out) ?_
        clear hKK KK be9 hv
        refine mix_go rfl (by kernel_rfl) fun KK hKK => ?_
        go_simp
        refine (wtext_any u a t c w9 (HTT.out _ HB9.out) (by omega) HOK2.out).mono ?_
        rintro e w10 ⟨rfl, be10⟩
        rw [← HV.out]
        have HB10 := hid (HB9.out.trans (be10.mono HB9.out.size))
        have HE10 := hid (show Below w8.heap.size w8 w10 from HE9.out.trans (be10.mono HE9.out.size))
        refine hKK _ _ (fun _ => HSK.out _ HE10.out) ?_
        clear hKK KK be10
        have vv : (v == v) = true := beq_self_eq_true v
        iterate 3 (refine mix_free ?_ rfl (by kernel_rfl) (fun w' hS => ?_) ?_; (rotate_left; (go_simp; with_reducible rfl); rotate_left))
        refine mix_go rfl (by kernel_rfl) fun KK hKK => ?_
        go_simp
        refine (HLV.out _ HB10.out).mono ?_
        rintro e w11 ⟨rfl, be11⟩
        have HB11 := hid (HB10.out.trans (be11.mono HB10.out.size))
        refine hKK _ _ (fun _ => HSK.out _ (HE10.out.trans (be11.mono HE10.out.size))) ?_
        clear hKK KK be11
        refine mix_free ?_ rfl (by kernel_rfl) (fun w' hS => ?_) ?_; (rotate_left; (go_simp; with_reducible rfl); rotate_left)
        refine mix_go rfl (by kernel_rfl) fun KK hKK => ?_
        go_simp
        refine hKK _ _ (fun h => by cases h) ?_
        clear hKK KK
        refine mix_end (NoPanic.normal ?_)
        go_wp2
        go_ret
        exact ⟨rfl, HB11.out⟩
  · have hs0i : ¬ (0 : Int) < (s.length : Int) := by omega
    have HJ := hid (join_tx s u a t st (.inl (List.length_eq_zero_iff.1 (by omega))))
    go_wp2_with fail
    obtain ⟨w6, hw6⟩ : ∃ w6, w6 = w5.alloc (.cells #[.int .i64 a, .int .i64 t, .int .i64 st] 36) := ⟨_, rfl⟩
    have hB6 : Below w5.heap.size w5 w6 := by rw [hw6]; exact (Below.refl _ _).alloc (Nat.le_refl _) _
    have hbp6 : w6.heap[w5.heap.size]? = some (.cells #[.int .i64 a, .int .i64 t, .int .i64 st] 36 (0, 0)) := by rw [hw6]; exact World.alloc_heap_new w5 _
    have hs6 : w6.heap.size = w5.heap.size + 1 := by rw [hw6]; simp
    rw [← hw6]
    clear hw6
    have hbb6 := (hB6.block _ hlt5).trans hbx5
    have HB6 := hid (HB5.out.trans (hB6.mono HB5.out.size))
    refine (wtext_any s a t st w6 (HTT.out _ HB6.out) (by omega) HOK.out).mono ?_
    rintro e w7 ⟨rfl, be7⟩
    have hcb := colP_bd s a t st HOK.out (gpF s 0) st HOK.out.s1
    have hcn : (gpF s 0).length ≤ 100 := by rw [gpF_0, plc_len]; exact Nat.le_trans (gcnt_le s) hsl
    have hcs := HOK.out.s2
    obtain ⟨c, hc⟩ : ∃ c, c = colP s a t st (gpF s 0) := ⟨_, rfl⟩
    rw [← hc] at HJ hcb ⊢
    have hbb7 := (be7.block _ (by omega)).trans hbb6
    have hbp7 := (be7.block _ (by omega)).trans hbp6
    have HB7 := hid (HB6.out.trans (be7.mono HB6.out.size))
    obtain ⟨N, hN⟩ : ∃ N, N = w.heap.size := ⟨_, rfl⟩
    obtain ⟨M, hM⟩ : ∃ M, M = w5.heap.size := ⟨_, rfl⟩
    rw [← hM] at hbp7 hlt5 ⊢
    rw [← hN] at hbb7 hlt5 ⊢
    have c6 : w7.cell? ⟨M, 2, none⟩ = some (.int .i64 st) := by simp [World.cell?, hbp7]
    have f6 : w7.frozen? ⟨M, 2, none⟩ = false := by simp [World.frozen?, hbp7]
    have hMw : M < w7.heap.size := (Array.getElem?_eq_some_iff.1 hbp7).1
    have HN := hid hN
    have HBB := hid hbb7
    have HBP := hid hbp7
    have HCM := hid hc
    clear be7 hB6 hbp6 hs6 hbb6 HB6 hN hM hbb7 hbp7 c0 c1 c2 hbx5 HB5 hc hcn
    go_wp2
    have hbb8 : (w7.setCell ⟨M, 2, none⟩ (.int .i64 c)).heap[N]? = some (.cells #[.int .i64 a, .int .i64 t, .int .i64 st] 36 (0, 0)) := (Below.heap_setCell _ _ _ N (by simp; omega)).trans HBB.out
    have hbp8 : (w7.setCell ⟨M, 2, none⟩ (.int .i64 c)).heap[M]? = some (.cells #[.int .i64 a, .int .i64 t, .int .i64 c] 36 (0, 0)) := set_three HBP.out _
    have HB8 := hid (show Below N w (w7.setCell ⟨M, 2, none⟩ (.int .i64 c)) by rw [HN.out]; exact HB7.out.setCell (p := ⟨M, 2, none⟩) (by rw [← HN.out]; simp; omega) _)
    obtain ⟨w8, hw8⟩ : ∃ w8, w8 = w7.setCell ⟨M, 2, none⟩ (.int .i64 c) := ⟨_, rfl⟩
    rw [← hw8] at hbb8 hbp8 HB8 ⊢
    have HCW := hid (cel_cells hbb8)
    have HPW := hid (cel_cells hbp8)
    have hNs : N < w8.heap.size := (Array.getElem?_eq_some_iff.1 hbb8).1
    have hMs : M < w8.heap.size := (Array.getElem?_eq_some_iff.1 hbp8).1
    clear hw8 hbb8 hbp8 HBB HBP HB7 c6 f6 hMw
    have HSK := hid (fun (W : World) (h : Below w8.heap.size w8 W) => And.intro (HCW.out.kept h hNs) (HPW.out.kept h hMs))
    refine wp_region_mix [(0, true), (1, true), (2, true), (3, true), (4, true), (5, true), (6, true), (7, true), (9, true), (10, true), (8, false), (11, false), (12, true), (13, true), (14, true), (15, false), (16, true), (17, false)] (fun w' => Cel w' N a t st ∧ Cel w' M a t c) (fun j => j == 17) (by kernel_rfl) (by kernel_rfl) ?hs3 rfl (by kernel_rfl) (HSK.out _ ((Below.refl _ _).drew)) ?hm3
    case hs3 =>
      intro j hj
      have e : j = 17 := by simpa using hj
      subst e
      decide
    by_cases hbig : 1073741824 < c
    · iterate 4 (refine mix_free ?_ rfl (by kernel_rfl) (fun w' hS => ?_) ?_; (rotate_left; (obtain ⟨⟨s1, s2, s3⟩, s4, s5, s6⟩ := hS; go_simp; with_reducible rfl); rotate_left))
      iterate 6 (refine mix_pass rfl (by kernel_rfl) ?_)
      iterate 2 (refine mix_skip rfl (by kernel_rfl) (fun _ => HSK.out _ ((Below.refl _ _).drew)) ?_)
      refine mix_pass rfl (by kernel_rfl) ?_
      iterate 2 (refine mix_free ?_ rfl (by kernel_rfl) (fun w' hS => ?_) ?_; (rotate_left; (go_simp; with_reducible rfl); rotate_left))
      refine mix_go rfl (by kernel_rfl) fun KK hKK => ?_
      go_simp
      refine (HLV.out _ (by rw [← HN.out]; exact HB8.out.drew)).mono ?_
      rintro e w9 ⟨rfl, be9⟩
      have HB9 := hid (HB8.out.drew.trans (be9.mono (by have := HB8.out.drew.size; rw [HN.out]; exact this)))
      refine hKK _ _ (fun _ => HSK.out _ (((Below.refl _ _).drew).trans be9)) ?_
      clear hKK KK be9
      refine mix_free ?_ rfl (by kernel_rfl) (fun w' hS => ?_) ?_; (rotate_left; (go_simp; with_reducible rfl); rotate_left)
      refine mix_go rfl (by kernel_rfl) fun KK hKK => ?_
      go_simp
      refine hKK _ _ (fun h => by cases h) ?_
      clear hKK KK
      refine mix_end (NoPanic.normal ?_)
      go_wp2
      go_ret
      exact ⟨rfl, by rw [← HN.out]; exact HB9.out⟩
    · have hbg : ¬ 1073741824 < c := hbig
      have HOK2 := hid (show Okc a t c from ⟨HOK.out.a, HOK.out.t1, HOK.out.t2, hcb.1, by omega⟩)
      iterate 6 (refine mix_free ?_ rfl (by kernel_rfl) (fun w' hS => ?_) ?_; (rotate_left; (obtain ⟨⟨s1, s2, s3⟩, s4, s5, s6⟩ := hS; go_simp; with_reducible rfl); rotate_left))
      refine mix_free (.string ⟨(s ++ u).toArray⟩) rfl (by kernel_rfl) (fun w' hS => ?_) ?_
      · go_simp
        rw [HCAT.out, if_neg (by omega)]
      iterate 3 (refine mix_free ?_ rfl (by kernel_rfl) (fun w' hS => ?_) ?_; (rotate_left; (obtain ⟨⟨s1, s2, s3⟩, s4, s5, s6⟩ := hS; go_simp; with_reducible rfl); rotate_left))
      refine mix_go rfl (by kernel_rfl) fun KK hKK => ?_
      go_simp
      have HBd := hid (show Below w.heap.size w w8.drew by rw [← HN.out]; exact HB8.out.drew)
      refine (wtext_any (s ++ u) a t st w8.drew (HTT.out _ HBd.out) (by rw [List.length_append]; omega) HOK.out).mono ?_
      rintro e w9 ⟨rfl, be9⟩
      rw [HJ.out]
      obtain ⟨v, hv⟩ : ∃ v, v = colP u a t c (gpF u 0) := ⟨_, rfl⟩
      rw [← hv]
      have HV := hid hv
      have HB9 := hid (HBd.out.trans (be9.mono HBd.out.size))
      have HE9 := hid (show Below w8.heap.size w8 w9 from ((Below.refl _ _).drew).trans be9)
      refine hKK _ _ (fun _ => HSK.out _ HE9.out) ?_
      clear hKK KK be9 hv
      refine mix_go rfl (by kernel_rfl) fun KK hKK => ?_
      go_simp
      refine (wtext_any u a t c w9 (HTT.out _ HB9.out) (by omega) HOK2.out).mono ?_
      rintro e w10 ⟨rfl, be10⟩
      rw [← HV.out]
      have HB10 := hid (HB9.out.trans (be10.mono HB9.out.size))
      have HE10 := hid (show Below w8.heap.size w8 w10 from HE9.out.trans (be10.mono HE9.out.size))
      refine hKK _ _ (fun _ => HSK.out _ HE10.out) ?_
      clear hKK KK be10
      have vv : (v == v) = true := beq_self_eq_true v
      iterate 3 (refine mix_free ?_ rfl (by kernel_rfl) (fun w' hS => ?_) ?_; (rotate_left; (go_simp; with_reducible rfl); rotate_left))
      refine mix_go rfl (by kernel_rfl) fun KK hKK => ?_
      go_simp
      refine (HLV.out _ HB10.out).mono ?_
      rintro e w11 ⟨rfl, be11⟩
      have HB11 := hid (HB10.out.trans (be11.mono HB10.out.size))
      refine hKK _ _ (fun _ => HSK.out _ (HE10.out.trans (be11.mono HE10.out.size))) ?_
      clear hKK KK be11
      refine mix_free ?_ rfl (by kernel_rfl) (fun w' hS => ?_) ?_; (rotate_left; (go_simp; with_reducible rfl); rotate_left)
      refine mix_go rfl (by kernel_rfl) fun KK hKK => ?_
      go_simp
      refine hKK _ _ (fun h => by cases h) ?_
      clear hKK KK
      refine mix_end (NoPanic.normal ?_)
      go_wp2
      go_ret
      exact ⟨rfl, HB11.out⟩
end Go.Proofs.YtlfegdpclappiaaDoor
