/- The contract of even of the document's side (kerfref16). -/
import Derived.Test.YtkopefljnhgdkaaGreatDoorWrEvJoint
namespace Go.Proofs.YtkopefljnhgdkaaGreatDoor
open Go.RowKit Go.Shelf

theorem Tryz.infoBest : (Tryz.prog.info? 76).map (fun i => (i.zero, i.size, i.bytes)) = some (some (.agg #[.int .i64 0, .int .i64 0, .int .i64 0]), 3, 24) := by kernel_rfl
set_option maxRecDepth 100000 in
set_option maxHeartbeats 8000000 in
theorem reven_any (lo : Option Addr) (n c : Nat) (wd fi re ho : Int) (L : List Bx) (w : World) (hn : n = L.length) (hr : RdB w lo L) (o : Okb ⟨wd, fi, re, ho⟩ L) :
    Calls Tryz.prog 22 #[.slice lo n c, .agg #[.int .i64 wd, .int .i64 fi, .int .i64 re, .int .i64 ho]] w fun e w' => EvQ w ⟨wd, fi, re, ho⟩ L e w' := by
  obtain ⟨i0, hi3, hz0, hz1, hz2⟩ := info_parts Tryz.info3
  have HI := hid (And.intro hi3 (And.intro hz0 (And.intro hz1 hz2)))
  clear hi3 hz0 hz1 hz2
  have HS := hid (Wrs.new w wd fi re ho)
  have HB := hid (below_box (w := w) (o := .cells #[.int .i64 wd, .int .i64 fi, .int .i64 re, .int .i64 ho] 24))
  have HR0 := hid hr
  have HN := hid hn
  have HO := hid o
  have hlen : n ≤ 4096 := hn ▸ o.len
  clear hr hn o
  have M1 : ∀ W : World, (Instr.makeSlice 74 (.int .i64 ((n : Int) + 1)) (.int .i64 ((n : Int) + 1))).run Tryz.prog W = .ok (.slice (some ⟨W.heap.size, 0, none⟩) (n + 1) (n + 1)) (W.alloc (.cells (madeCells (Value.agg #[.int .i64 0, .int .i64 0, .int .i64 0]).cells ((n + 1) * 3)) 76)) := by
    obtain ⟨iw, hiw, hw0, hw1, hw2⟩ := info_parts Tryz.infoBest
    exact mkT Tryz.underlying74 hiw hw0 hw1 hw2 (by decide) (n + 1) (by omega)
  obtain ⟨MC, hMC⟩ : ∃ MC, MC = madeCells (Value.agg #[.int .i64 0, .int .i64 0, .int .i64 0]).cells ((n + 1) * 3) := ⟨_, rfl⟩
  rw [← hMC] at M1
  obtain ⟨w1, hw1⟩ : ∃ w1, w1 = (w.alloc (.cells #[.int .i64 wd, .int .i64 fi, .int .i64 re, .int .i64 ho] 24)).alloc (.cells MC 76) := ⟨_, rfl⟩
  have HW1 := hid hw1
  have hs1 : w1.heap.size = w.heap.size + 2 := by rw [hw1]; simp
  have HB1 := hid (show Below w.heap.size w w1 by rw [hw1]; exact below_box.alloc (by simp) _)
  have HS1 := hid (show Wrs w1 w.heap.size wd fi re ho by rw [hw1]; exact HS.out.kept below_box)
  have HT1 := hid (show TbR w1 (w.heap.size + 1) (fun _ => ⟨0, 0, 0⟩) n n by
    refine ⟨MC, ?_, by rw [hMC, size_madeCells], fun j h1 h2 => by rw [hMC]; exact made_way n j h2⟩
    have h := World.alloc_heap_new (w.alloc (.cells #[.int .i64 wd, .int .i64 fi, .int .i64 re, .int .i64 ho] 24)) (.cells MC 76)
    rw [World.size_alloc] at h
    rw [hw1]
    exact h)
  clear hMC hw1
  go_enter Tryz.func22, Tryz.ntmps22
  go_wp2
  rw [← HW1.out]
  clear M1 HW1
  go_loopw [6] (fun v wr => ∃ (k : Nat) (T : Nat → Way), v = .int .i64 ((k : Int) - 1) ∧ k ≤ n ∧ Hid (TbR wr (w.heap.size + 1) T k n) ∧ Hid (Good ⟨wd, fi, re, ho⟩ L T k) ∧ Hid (∀ j, k ≤ j → j ≤ L.length → TOk L T j) ∧ Hid (Below (w.heap.size + 1) w1 wr)) (fun v _ => (intOf v + 1).toNat)
  case atStart => exact ⟨n, fun _ => ⟨0, 0, 0⟩, rfl, Nat.le_refl _, HT1, ⟨rfl, fun k h1 h2 => by have := HN.out; omega⟩, fun j h1 h2 => ⟨Int.le_refl _, by show (0 : Int) ≤ _; omega, Int.le_refl _, by show (0 : Int) ≤ _; omega⟩, Below.refl _ _⟩
  case round =>
    obtain ⟨k, T, rfl, hk, HTB, HGD, HTO, HBW⟩ := hrel
    have hwr : w.heap.size + 2 ≤ wr.heap.size := by have := HBW.out.size; omega
    have HBWW := hid (show Below w.heap.size w wr from HB1.out.trans (HBW.out.mono (by omega)))
    by_cases hk0 : k = 0
    · subst hk0
      have ez : ((0 : Nat) : Int) - 1 = -1 := by omega
      rw [ez]
      clear ez
      have HRD := hid HTB.out.rd
      clear hk HTB HTO
      go_wp2
      obtain ⟨wA, hwA⟩ : ∃ wA, wA = wr := ⟨_, rfl⟩
      have hsA : w.heap.size + 2 ≤ wA.heap.size := by rw [hwA]; exact hwr
      rw [← hwA] at HRD HBWW
      clear hwr HBW
      go_loopw [11, 12] (fun v5 v6 wr => ∃ (first : Nat) (es : List Int) (eo : Option Addr) (el ec : Nat), v5 = .slice eo el ec ∧ v6 = .int .i64 first ∧ first ≤ n ∧ el ≤ first ∧ Hid (el = es.length) ∧ Hid (wr.ownsRow wA.heap.size 3 1 (.slice eo el ec) el (i64s es)) ∧ Hid (∀ t, EvL L T first t → EvL L T 0 (es ++ t)) ∧ Hid (Below wA.heap.size wA wr)) (fun _ v6 _ => n - (intOf v6).toNat)
      case atStart => exact ⟨0, [], none, 0, 0, rfl, rfl, Nat.zero_le _, Nat.le_refl _, rfl, own_nil _ _ _ _, fun t ht => ht, by rw [hwA]; exact Below.refl _ _⟩
      case round =>
        clear hwA
        obtain ⟨first, es, eo, el, ec, rfl, rfl, hf, hel, HEL, HOW, HEV, HBr⟩ := hrel
        have hwz := HBr.out.size
        by_cases hlt : first < n
        · have hlti : (first : Int) < (n : Int) := by omega
          have i2 : (first : Int) < (n : Int) + 1 := by omega
          have i1 : (0 : Int) ≤ (first : Int) := by omega
          obtain ⟨k0, k1, k2⟩ := (HRD.out.below HBr.out).2 first (by omega) (by omega)
          have hbb := HGD.out.2 first (Nat.zero_le _) (by have := HN.out; omega)
          have hb1 := hbb.1.1.1
          have hb2 : (T first).e < n := by have := hbb.1.1.2.1; have := HN.out; omega
          have HE2 := hid (EvL.snoc HEV.out (by have := HN.out; omega))
          obtain ⟨j, hj⟩ : ∃ j, j = (T first).e := ⟨_, rfl⟩
          rw [← hj] at k2 hb1 hb2 HE2
          clear hj hbb k0 k1
          have HNX := hid (show ∀ (g5 ec5 : Nat) (w5 : World), w5.ownsRow wA.heap.size 3 1 (.slice (some ⟨g5, 0, none⟩) (el + 1) ec5) (el + 1) (i64s es ++ [.int .i64 (j : Int)]) → (wr.alloc (.cells #[.int .i64 (j : Int)] 3)).grownBy w5 (Value.ownBlock (.slice eo el ec)) →
              w5.cell? ⟨w.heap.size + 1, first * 3 + 2, none⟩ = some (.int .i64 (j : Int)) ∧ w5.ownsRow wA.heap.size 3 1 (.slice (some ⟨g5, 0, none⟩) (el + 1) ec5) (el + 1) (i64s (es ++ [(j : Int)])) ∧ Below wA.heap.size wA w5 by
            intro g5 ec5 w5 o5 gr5
            have hb5 : Below wA.heap.size wA w5 := (HBr.out.alloc hwz _).grown gr5 (by simp; omega) (fun k hk => (HOW.out.lt k hk).1)
            refine ⟨?_, by rw [i64s_snoc]; exact o5, hb5⟩
            have h1 := ((hb5.cell (p := ⟨w.heap.size + 1, first * 3 + 2, none⟩) (by show w.heap.size + 1 < _; omega)).trans (HBr.out.cell (p := ⟨w.heap.size + 1, first * 3 + 2, none⟩) (by show w.heap.size + 1 < _; omega)).symm)
            exact h1.trans k2)
          go_wp2_with (at_builtin; refine wpList_append_lies _ rfl _ _ 33 rfl wA.heap.size 3 i0 (.int .i64 0) 1 8 Tryz.underlying33 HI.out.1 HI.out.2.1 HI.out.2.2.1 HI.out.2.2.2 rfl (by decide) (.slice eo el ec) el (i64s es) rfl (HOW.out.alloc _) ⟨wr.heap.size, 0, none⟩ 1 1 [.int .i64 (j : Int)] rfl rfl (news_one wr _ 3) (i64s_one [(j : Int)]) (by decide) (by unfold maxLen; omega) (by omega) (by simp; omega) (wr.heap.size + 1) (by simp) ?_; intro g5 ec5 w5 o5 gr5 hl5 hlt5; obtain ⟨hc5, hO5, hB5⟩ := HNX.out g5 ec5 w5 o5 gr5; have HO5 := hid hO5; have HB5 := hid hB5; clear hO5 hB5 o5 gr5 hl5 hlt5)
          go_roundw
          case rel => exact ⟨j + 1, es ++ [(j : Int)], _, el + 1, _, rfl, by go_num, by omega, by omega, by show el + 1 = _; rw [List.length_append, ← HEL.out]; rfl, HO5, HE2, HB5⟩
          case measure => simp [intOf]; omega
        · have hlti : ¬ (first : Int) < (n : Int) := by omega
          have HQ := hid (HEV.out [] (show first = L.length by have := HN.out; omega))
          go_wp2
          go_ret
          exact ⟨T, es, eo, el, ec, rfl, HEL.out, own_mono' HOW.out (by omega), HGD.out, by have := HQ.out; rwa [List.append_nil] at this, HBWW.out.trans (HBr.out.mono (by omega))⟩
    · obtain ⟨i, rfl⟩ : ∃ i, k = i + 1 := ⟨k - 1, by omega⟩
      have ez : ((i + 1 : Nat) : Int) - 1 = (i : Int) := by omega
      rw [ez]
      have i1 : (0 : Int) ≤ (i : Int) := by omega
      have i2 : (i : Int) < (n : Int) + 1 := by omega
      have hin : i < n := by omega
      clear ez hk0
      obtain ⟨nr, hnr⟩ : ∃ nr, nr = wr := ⟨_, rfl⟩
      go_wp2_with fail
      refine (rlast_any lo n c L i wr HN.out (HR0.out.below HBWW.out) hin hlen).mono ?_
      rintro e w2 ⟨⟨q, rfl, hq⟩, hw2⟩
      obtain rfl := hw2.symm
      clear hw2
      have HQ := hid hq
      have hq1 := hq.1.1
      have hq2 : q < n := by have := hq.1.2.1; have := HN.out; omega
      clear hq HBWW
      rw [← hnr] at HTB HBW hwr
      go_wp2
      go_loopw [8, 9] (fun v8 v9 wi => ∃ (j : Nat) (js : List Nat) (fl : Bool), v8 = .bool fl ∧ v9 = .int .i64 j ∧ Hid (fl = js.isEmpty) ∧ (i ≤ j ∧ j ≤ q + 1) ∧ Hid (Js ⟨wd, fi, re, ho⟩ L i j js) ∧ Hid (TbR wi (w.heap.size + 1) T (i + 1) n) ∧ Hid (js ≠ [] → TbR wi (w.heap.size + 1) (upd T i (bstL ⟨wd, fi, re, ho⟩ L T i js)) i n) ∧ Hid (Below (w.heap.size + 1) w1 wi)) (fun _ v9 _ => q + 1 - (intOf v9).toNat)
      case atStart => exact ⟨i, [], true, rfl, rfl, rfl, ⟨Nat.le_refl _, by omega⟩, Js.nil _ _ _, by rw [← hnr]; exact HTB, fun h => absurd rfl h, by rw [← hnr]; exact HBW⟩
      case round =>
        clear hnr HTB HBW hwr
        obtain ⟨j, js, fl, rfl, rfl, HFL, ⟨hj1, hj2⟩, HJS, HT, HTJ, HBW⟩ := hrel
        have hwr2 : w.heap.size + 2 ≤ wr.heap.size := by have := HBW.out.size; omega
        have hwsz : w.heap.size + 1 ≤ wr.heap.size := by omega
        have HBWW := hid (show Below w.heap.size w wr from HB1.out.trans (HBW.out.mono (by omega)))
        have HWR := hid (show Wrs wr w.heap.size wd fi re ho from (HBW.out.block _ (by omega)).trans HS1.out)
        have HRr := hid (HR0.out.below HBWW.out)
        by_cases hjl : j ≤ q
        · have hjli : (j : Int) ≤ (q : Int) := by omega
          have HPJ := hid (HQ.out.par.2 ⟨hj1, hjl⟩)
          obtain ⟨c0, c1, c2, c3⟩ := HWR.out.cell
          go_wp2_with fail
          refine (rfits_any lo n c wd fi re ho L i j wr HN.out HRr.out HPJ.out HO.out).mono ?_
          rintro e w3 ⟨⟨bb, rfl, hbb⟩, be3⟩
          cases bb with
          | false =>
            have HJN := hid (HJS.out.no (fun h => by have := hbb.2 h; cases this))
            have HT3 := hid (HT.out.keep (be3.block _ HT.out.lt))
            have HTJ3 := hid (show js ≠ [] → TbR w3 (w.heap.size + 1) (upd T i (bstL ⟨wd, fi, re, ho⟩ L T i js)) i n from fun h => (HTJ.out h).keep (be3.block _ HT.out.lt))
            have HB3 := hid (HBW.out.trans (be3.mono hwsz))
            clear hbb be3 c0 c1 c2 c3
            go_wp2
            go_roundw
            case rel => exact ⟨j + 1, js, fl, rfl, by go_num, HFL, ⟨by omega, by omega⟩, HJN, HT3, HTJ3, HB3⟩
            case measure => simp [intOf]; omega
          | true =>
            have HLN := hid (hbb.1 rfl)
            have HJY := hid (HJS.out.yes HLN.out)
            have HTa := hid (HT.out.keep (be3.block _ HT.out.lt))
            have HTJa := hid (show js ≠ [] → TbR w3 (w.heap.size + 1) (upd T i (bstL ⟨wd, fi, re, ho⟩ L T i js)) i n from fun h => (HTJ.out h).keep (be3.block _ HT.out.lt))
            have HBWa := hid (HBW.out.trans (be3.mono hwsz))
            have HWRa := hid (HWR.out.kept be3)
            have HRra := hid (HRr.out.below be3)
            have hsz3 := be3.size
            clear hbb be3 c0 c1 c2 c3 HJS HT HTJ HBW HWR HRr HBWW hwsz hwr2
            have HT := HTa
            have HTJ := HTJa
            have HBW := HBWa
            clear HTa HTJa HBWa
            have hwsz : w.heap.size + 2 ≤ w3.heap.size := by have := HBW.out.size; omega
            have hTOJ := HTO.out (j + 1) (by omega) (by have := HN.out; omega)
            have HTOJ := hid hTOJ
            have hlc := HO.out.line HLN.out
            obtain ⟨k0, k1, k2⟩ := HT.out.rd.2 (j + 1) (by omega) (by omega)
            have hc0 := hTOJ.c0
            have hc1 := hTOJ.c1
            have hl0 := hTOJ.l0
            have hl1 := hTOJ.l1
            have HWY := hid (show wy ⟨wd, fi, re, ho⟩ L T i j = ⟨lc ⟨wd, fi, re, ho⟩ L i j + (T (j + 1)).c, 1 + (T (j + 1)).l, j⟩ from rfl)
            have HCO := hid (fun WW (h : RdB WW lo L) => rcost_any lo n c wd fi re ho L i j WW HN.out h HLN.out HO.out)
            have HRT := hid (show ∀ W, Below w3.heap.size w3.drew W → W.cell? ⟨w.heap.size + 1, (j + 1) * 3, none⟩ = some (.int .i64 (T (j + 1)).c) ∧ W.cell? ⟨w.heap.size + 1, (j + 1) * 3 + 1, none⟩ = some (.int .i64 (T (j + 1)).l) from fun W h => ⟨(h.cell (p := ⟨w.heap.size + 1, (j + 1) * 3, none⟩) HT.out.lt).trans k0, (h.cell (p := ⟨w.heap.size + 1, (j + 1) * 3 + 1, none⟩) HT.out.lt).trans k1⟩)
            have HWT := hid (show ∀ W, Below w3.heap.size w3.drew W → Wrs W w.heap.size wd fi re ho from fun W h => (h.block _ (by omega)).trans HWRa.out)
            have HRB := hid (show ∀ W, Below w3.heap.size w3.drew W → RdB W lo L from fun W h => HRra.out.dr.below h)
            obtain ⟨tc, htc⟩ : ∃ z, z = (T (j + 1)).c := ⟨_, rfl⟩
            obtain ⟨tl, htl⟩ : ∃ z, z = (T (j + 1)).l := ⟨_, rfl⟩
            obtain ⟨lcv, hlcv⟩ : ∃ z, z = lc ⟨wd, fi, re, ho⟩ L i j := ⟨_, rfl⟩
            rw [← htc, ← htl, ← hlcv] at HWY
            rw [← htc] at hc0 hc1
            rw [← htl] at hl0 hl1
            rw [← htc, ← htl] at HRT
            rw [← hlcv] at hlc HCO
            have hc1' : tc ≤ 1000000000000 * 4096 := by have := HN.out; omega
            have hl1' : tl ≤ 4096 := by have := HN.out; omega
            have e1 : IntKind.i64.wrap (lcv + tc) = lcv + tc := by rw [IntKind.wrap_i64]; omega
            have e2 : IntKind.i64.wrap (1 + tl) = 1 + tl := by rw [IntKind.wrap_i64]; omega
            have e3 : IntKind.i64.wrap ((j : Int) + 1) = (j : Int) + 1 := by rw [IntKind.wrap_i64]; omega
            have i3 : (j : Int) + 1 < (n : Int) + 1 := by omega
            have i4 : (0 : Int) ≤ (j : Int) + 1 := by omega
            have i5 : j + 1 < n + 1 := by omega
            have etn : ((j : Int) + 1).toNat = j + 1 := by omega
            clear hTOJ htc htl hlcv hc1 hl1 k0 k1 k2
            go_wp2_with fail
            obtain ⟨u, hu⟩ : ∃ u, u = w3.drew := ⟨_, rfl⟩
            have HUZ := hid (show u.heap.size = w3.heap.size by rw [hu]; rfl)
            have HU3 := hid (show ∀ W, Below w3.heap.size u W → Below w3.heap.size w3 W from fun W h => ((Below.refl _ w3).drew).trans (by rw [← hu]; exact h))
            rw [← hu] at HRT HWT HRB
            refine wp_region_mixT (.one 0 1 (.one 1 1 (.one 2 1 (.one 3 1 (.one 5 1 (.one 6 1 (.one 7 1 (.one 8 1 (.one 9 1 (.one 10 1 (.one 12 1 (.one 13 1 (.one 14 1 (.one 15 1 (.one 16 1 (.one 17 1 (.one 18 1 (.one 19 1 (.two 4 21 (.one 11 1 (.one 20 1 (.one 21 2 (.one 22 2 .nil)))) (.one 4 2 (.one 11 1 (.one 20 1 (.one 22 2 .nil))))))))))))))))))))))) (fun _ => True) (fun w' => Below w3.heap.size u w') (fun _ => false) (by kernel_rfl) (by kernel_rfl) (fun j hj => by cases hj) rfl (by kernel_rfl) trivial (by rw [hu]; exact Below.refl _ _) ?_
            rw [← hu]
            clear hu
            iterate 18 (refine mixT_t ?_ rfl (by kernel_rfl) (fun w' hS => ?_) ?_; (rotate_left; (obtain ⟨s0, s1, s2, s3⟩ := (HWT.out _ hS).cell; obtain ⟨s4, s5⟩ := HRT.out _ hS; go_simp; with_reducible rfl); rotate_left))
            refine mixT_two ?xA ?xB
            case xA =>
              refine hand_go rfl (by kernel_rfl) fun KK hKK => ?_
              go_simp
              refine (HCO.out _ (HRB.out u (Below.refl _ _))).mono ?_
              rintro e W3 ⟨rfl, be5⟩
              have HB5 := hid (show Below w3.heap.size u W3 from be5.mono (by rw [HUZ.out]; exact Nat.le_refl _))
              refine hKK _ _ (fun _ => trivial) HB5.out ?_
              clear hKK KK be5
              iterate 2 (refine mixT_t ?_ rfl (by kernel_rfl) (fun w' hS => ?_) ?_; (rotate_left; (go_simp; with_reducible rfl); rotate_left))
              refine mixT_go rfl (by kernel_rfl) fun KK hKK => ?_
              go_simp
              have hs5 : w3.heap.size ≤ W3.heap.size := by have := HB5.out.size; rw [HUZ.out] at this; exact this
              refine hKK _ _ (fun _ => trivial) (HB5.out.alloc hs5 _) ?_
              clear hKK KK
              refine mixT_go rfl (by kernel_rfl) fun KK hKK0 => ?_
              go_simp
              have HB6 := hid (HB5.out.alloc hs5 (.cells #[.int .i64 (lcv + tc), .int .i64 (1 + tl), .int .i64 (j : Nat)] 76))
              have HO4 := hid (show WyR (W3.alloc (.cells #[.int .i64 (lcv + tc), .int .i64 (1 + tl), .int .i64 (j : Nat)] 76)) W3.heap.size ⟨lcv + tc, 1 + tl, j⟩ from WyR.new W3 ⟨lcv + tc, 1 + tl, j⟩)
              obtain ⟨W4, hW4⟩ : ∃ W4, W4 = W3.alloc (.cells #[.int .i64 (lcv + tc), .int .i64 (1 + tl), .int .i64 (j : Nat)] 76) := ⟨_, rfl⟩
              rw [← hW4] at HB6 HO4
              rw [← hW4]
              refine hKK0 _ _ (fun _ => trivial) HB6.out ?_
              have HB4 := hid (HU3.out W4 HB6.out)
              clear hW4 HB5 HB6 hs5
              refine mixT_end (NoPanic.normal ?_)
              go_simp
              clear hKK0
              obtain ⟨yc, hyc⟩ : ∃ z, z = lcv + tc := ⟨_, rfl⟩
              obtain ⟨yl, hyl⟩ : ∃ z, z = 1 + tl := ⟨_, rfl⟩
              rw [← hyc, ← hyl] at HO4 HWY
              rw [← hyc, ← hyl]
              clear hyc hyl e1 e2 hlc hc0 hc1' hl0 hl1' i3 i4 i5 etn
              obtain ⟨b0, b1, b2⟩ := HO4.out.cell
              dsimp only at b0 b1 b2
              have HT4 := hid (HT.out.keep (HB4.out.block _ HT.out.lt))
              obtain ⟨⟨t0, a0⟩, ⟨t1, a1⟩, ⟨t2, a2⟩, hfz⟩ := HT4.out.cells (i := i) (by omega)
              have f0 := hfz (i * 3)
              have f1 := hfz (i * 3 + 1)
              have f2 := hfz (i * 3 + 2)
              have HBX := hid (HBW.out.trans (HB4.out.mono (by omega)))
              have HBT := hid (show ∀ (q : Nat) (x : Way), TbR (stw (W4.drewN q) (w.heap.size + 1) (i * 3) (.int .i64 x.c) (.int .i64 x.l) (.int .i64 (x.e : Nat))) (w.heap.size + 1) (upd T i x) i n from fun q x => (HT4.out.keep (show (W4.drewN q).heap[w.heap.size + 1]? = _ from rfl)).st (by omega) x)
              have HSTB := hid (show ∀ (q : Nat) (x : Way), Below (w.heap.size + 1) w1 (stw (W4.drewN q) (w.heap.size + 1) (i * 3) (.int .i64 x.c) (.int .i64 x.l) (.int .i64 (x.e : Nat))) from fun q x => (below_drN HBX.out q).trans ⟨rfl, rfl, rfl, by rw [stw_size]; exact Nat.le_refl _, fun k hk => stw_other (by omega)⟩)
              clear hfz
              cases js with
              | nil =>
                have hfl : fl = true := HFL.out
                subst hfl
                clear HFL
                have HX := hid (show bstL ⟨wd, fi, re, ho⟩ L T i ([] ++ [j]) = ⟨yc, yl, j⟩ by rw [bstL_snoc]; exact bst1_first HO.out HLN.out HTOJ.out HWY.out)
                clear a0 a1 a2
                obtain ⟨⟨t0, a0⟩, ⟨t1, a1⟩, ⟨t2, a2⟩, _⟩ := HT4.out.cells (i := i) (by omega)
                go_wp2_with fail
                go_quiet (fail)
                go_wp2
                go_roundw
                case rel => exact ⟨j + 1, [] ++ [j], false, rfl, by go_num, hid rfl, ⟨by omega, by omega⟩, HJY, hid ((HBT.out _ ⟨yc, yl, j⟩).up (by omega) (fun k hk => if_neg (by omega))), hid (fun _ => (by rw [HX.out]; exact HBT.out _ ⟨yc, yl, j⟩)), hid (HSTB.out _ ⟨yc, yl, j⟩)⟩
                case measure => simp [intOf]; omega
              | cons y ys =>
                have hfl : fl = false := HFL.out
                subst hfl
                clear HFL
                have HSN := hid (bstL_snoc ⟨wd, fi, re, ho⟩ L T i (y :: ys) j)
                have HTI := hid ((HTJ.out (by simp)).keep (HB4.out.block _ HT.out.lt))
                obtain ⟨xx, hxx⟩ : ∃ xx, xx = bstL ⟨wd, fi, re, ho⟩ L T i (y :: ys) := ⟨_, rfl⟩
                rw [← hxx] at HSN HTI
                clear a0 a1 a2 t0 t1 t2
                have hrd := HTI.out.rd.2 i (Nat.le_refl _) (by omega)
                have hup : upd T i xx i = xx := if_pos rfl
                rw [hup] at hrd
                have HXX := hid hxx
                obtain ⟨xc, xl, xe⟩ := xx
                obtain ⟨a0, a1, a2⟩ := hrd
                dsimp only at a0 a1 a2
                clear hxx hup
                have HKEEP := hid (show TbR W4 (w.heap.size + 1) (upd T i ⟨xc, xl, xe⟩) i n from HTI.out)
                by_cases q1 : yc < xc
                · have HX := hid (HSN.out.trans (bst1_yes HWY.out (.inl q1)))
                  go_wp2_with fail
                  go_quiet (fail)
                  go_wp2
                  go_roundw
                  case rel => exact ⟨j + 1, (y :: ys) ++ [j], false, rfl, by go_num, hid rfl, ⟨by omega, by omega⟩, HJY, hid ((HBT.out _ ⟨yc, yl, j⟩).up (by omega) (fun k hk => if_neg (by omega))), hid (fun _ => (by rw [HX.out]; exact HBT.out _ ⟨yc, yl, j⟩)), hid (HSTB.out _ ⟨yc, yl, j⟩)⟩
                  case measure => simp [intOf]; omega
                · cases q2 : ((yc) == xc) with
                  | true =>
                    by_cases q3 : yl ≤ xl
                    · have HX := hid (HSN.out.trans (bst1_yes HWY.out (.inr ⟨beq_iff_eq.1 q2, q3⟩)))
                      go_wp2_with fail
                      go_quiet (fail)
                      go_wp2
                      go_roundw
                      case rel => exact ⟨j + 1, (y :: ys) ++ [j], false, rfl, by go_num, hid rfl, ⟨by omega, by omega⟩, HJY, hid ((HBT.out _ ⟨yc, yl, j⟩).up (by omega) (fun k hk => if_neg (by omega))), hid (fun _ => (by rw [HX.out]; exact HBT.out _ ⟨yc, yl, j⟩)), hid (HSTB.out _ ⟨yc, yl, j⟩)⟩
                      case measure => simp [intOf]; omega
                    · have HX := hid (HSN.out.trans (bst1_no HWY.out (fun h => h.elim q1 (fun h => q3 h.2))))
                      go_wp2_with fail
                      go_quiet (fail)
                      go_wp2
                      go_roundw
                      case rel => exact ⟨j + 1, (y :: ys) ++ [j], false, rfl, by go_num, hid rfl, ⟨by omega, by omega⟩, HJY, hid (HT4.out.keep rfl), hid (fun _ => (by rw [HX.out]; exact HKEEP.out.keep rfl)), hid (below_drN HBX.out _)⟩
                      case measure => simp [intOf]; omega
                  | false =>
                    have HX := hid (HSN.out.trans (bst1_no HWY.out (fun h => h.elim q1 (fun h => (beq_eq_false_iff_ne.1 q2) h.1))))
                    have q2n : ¬ yc = xc := beq_eq_false_iff_ne.1 q2
                    have q2d : decide (yc = xc) = false := decide_eq_false q2n
                    have q1d : decide (yc < xc) = false := decide_eq_false q1
                    go_wp2_with fail
                    go_quiet (fail)
                    go_wp2
                    go_roundw
                    case rel => exact ⟨j + 1, (y :: ys) ++ [j], false, rfl, by go_num, hid rfl, ⟨by omega, by omega⟩, HJY, hid (HT4.out.keep rfl), hid (fun _ => (by rw [HX.out]; exact HKEEP.out.keep rfl)), hid (below_drN HBX.out _)⟩
                    case measure => simp [intOf]; omega
            case xB =>
              refine hand_go rfl (by kernel_rfl) fun KK hKK => ?_
              go_simp
              have HB5 := hid (show Below w3.heap.size u (u.alloc (.cells #[.int .i64 0, .int .i64 0, .int .i64 0] 76)) from (Below.refl _ _).alloc (by rw [HUZ.out]; exact Nat.le_refl _) _)
              refine hKK _ _ (fun _ => trivial) HB5.out ?_
              clear hKK KK
              have HZ0 := hid (show WyR (u.alloc (.cells #[.int .i64 0, .int .i64 0, .int .i64 0] 76)) u.heap.size ⟨0, 0, 0⟩ from WyR.new u ⟨0, 0, 0⟩)
              obtain ⟨v1, hv1⟩ : ∃ v1, v1 = u.alloc (.cells #[.int .i64 0, .int .i64 0, .int .i64 0] 76) := ⟨_, rfl⟩
              have HV1 := hid (show v1.heap.size = w3.heap.size + 1 by rw [hv1]; simp [HUZ.out])
              rw [← hv1] at HB5 HZ0
              rw [HUZ.out] at HZ0
              rw [← hv1, HUZ.out]
              clear hv1
              refine mixT_go rfl (by kernel_rfl) fun KK hKK => ?_
              go_simp
              refine (HCO.out _ (HRB.out v1 HB5.out)).mono ?_
              rintro e W3 ⟨rfl, be5⟩
              have HB6 := hid (show Below w3.heap.size u W3 from HB5.out.trans (be5.mono (by rw [HV1.out]; omega)))
              have HZ3 := hid (HZ0.out.kept be5)
              have hs6 : w3.heap.size + 1 ≤ W3.heap.size := by have := be5.size; rw [HV1.out] at this; exact this
              refine hKK _ _ (fun _ => trivial) HB6.out ?_
              clear hKK KK be5
              iterate 2 (refine mixT_t ?_ rfl (by kernel_rfl) (fun w' hS => ?_) ?_; (rotate_left; (go_simp; with_reducible rfl); rotate_left))
              refine mixT_go rfl (by kernel_rfl) fun KK hKK0 => ?_
              have hz := HZ3.out.frz
              have z0 := hz.1
              have z1 := hz.2.1
              have z2 := hz.2.2
              have hy := HZ3.out.cell
              have y0 := hy.1
              have y1 := hy.2.1
              have y2 := hy.2.2
              dsimp only at y0 y1 y2
              clear hz hy
              go_simp
              have HO4 := hid (show WyR (st3 W3 w3.heap.size (.int .i64 (lcv + tc)) (.int .i64 (1 + tl)) (.int .i64 (j : Nat))) w3.heap.size ⟨lcv + tc, 1 + tl, j⟩ from HZ3.out.st ⟨lcv + tc, 1 + tl, j⟩)
              have HB7 := hid (show Below w3.heap.size u (st3 W3 w3.heap.size (.int .i64 (lcv + tc)) (.int .i64 (1 + tl)) (.int .i64 (j : Nat))) from HB6.out.trans ⟨rfl, rfl, rfl, by rw [st3_size]; exact Nat.le_refl _, fun k hk => st3_other (by omega)⟩)
              show KK _ (st3 W3 w3.heap.size (.int .i64 (lcv + tc)) (.int .i64 (1 + tl)) (.int .i64 (j : Nat)))
              obtain ⟨W4, hW4⟩ : ∃ W4, W4 = st3 W3 w3.heap.size (.int .i64 (lcv + tc)) (.int .i64 (1 + tl)) (.int .i64 (j : Nat)) := ⟨_, rfl⟩
              rw [← hW4] at HB7 HO4
              rw [← hW4]
              refine hKK0 _ _ (fun _ => trivial) HB7.out ?_
              have HB4 := hid (HU3.out W4 HB7.out)
              clear hW4 HB5 HB6 HB7 HZ0 HZ3 z0 z1 z2 y0 y1 y2 hs6 HV1
              refine mixT_end (NoPanic.normal ?_)
              go_simp
              clear hKK0
              obtain ⟨yc, hyc⟩ : ∃ z, z = lcv + tc := ⟨_, rfl⟩
              obtain ⟨yl, hyl⟩ : ∃ z, z = 1 + tl := ⟨_, rfl⟩
              rw [← hyc, ← hyl] at HO4 HWY
              rw [← hyc, ← hyl]
              clear hyc hyl e1 e2 hlc hc0 hc1' hl0 hl1' i3 i4 i5 etn
              obtain ⟨b0, b1, b2⟩ := HO4.out.cell
              dsimp only at b0 b1 b2
              have HT4 := hid (HT.out.keep (HB4.out.block _ HT.out.lt))
              obtain ⟨⟨t0, a0⟩, ⟨t1, a1⟩, ⟨t2, a2⟩, hfz⟩ := HT4.out.cells (i := i) (by omega)
              have f0 := hfz (i * 3)
              have f1 := hfz (i * 3 + 1)
              have f2 := hfz (i * 3 + 2)
              have HBX := hid (HBW.out.trans (HB4.out.mono (by omega)))
              have HBT := hid (show ∀ (q : Nat) (x : Way), TbR (stw (W4.drewN q) (w.heap.size + 1) (i * 3) (.int .i64 x.c) (.int .i64 x.l) (.int .i64 (x.e : Nat))) (w.heap.size + 1) (upd T i x) i n from fun q x => (HT4.out.keep (show (W4.drewN q).heap[w.heap.size + 1]? = _ from rfl)).st (by omega) x)
              have HSTB := hid (show ∀ (q : Nat) (x : Way), Below (w.heap.size + 1) w1 (stw (W4.drewN q) (w.heap.size + 1) (i * 3) (.int .i64 x.c) (.int .i64 x.l) (.int .i64 (x.e : Nat))) from fun q x => (below_drN HBX.out q).trans ⟨rfl, rfl, rfl, by rw [stw_size]; exact Nat.le_refl _, fun k hk => stw_other (by omega)⟩)
              clear hfz
              cases js with
              | nil =>
                have hfl : fl = true := HFL.out
                subst hfl
                clear HFL
                have HX := hid (show bstL ⟨wd, fi, re, ho⟩ L T i ([] ++ [j]) = ⟨yc, yl, j⟩ by rw [bstL_snoc]; exact bst1_first HO.out HLN.out HTOJ.out HWY.out)
                clear a0 a1 a2
                obtain ⟨⟨t0, a0⟩, ⟨t1, a1⟩, ⟨t2, a2⟩, _⟩ := HT4.out.cells (i := i) (by omega)
                go_wp2_with fail
                go_quiet (fail)
                go_wp2
                go_roundw
                case rel => exact ⟨j + 1, [] ++ [j], false, rfl, by go_num, hid rfl, ⟨by omega, by omega⟩, HJY, hid ((HBT.out _ ⟨yc, yl, j⟩).up (by omega) (fun k hk => if_neg (by omega))), hid (fun _ => (by rw [HX.out]; exact HBT.out _ ⟨yc, yl, j⟩)), hid (HSTB.out _ ⟨yc, yl, j⟩)⟩
                case measure => simp [intOf]; omega
              | cons y ys =>
                have hfl : fl = false := HFL.out
                subst hfl
                clear HFL
                have HSN := hid (bstL_snoc ⟨wd, fi, re, ho⟩ L T i (y :: ys) j)
                have HTI := hid ((HTJ.out (by simp)).keep (HB4.out.block _ HT.out.lt))
                obtain ⟨xx, hxx⟩ : ∃ xx, xx = bstL ⟨wd, fi, re, ho⟩ L T i (y :: ys) := ⟨_, rfl⟩
                rw [← hxx] at HSN HTI
                clear a0 a1 a2 t0 t1 t2
                have hrd := HTI.out.rd.2 i (Nat.le_refl _) (by omega)
                have hup : upd T i xx i = xx := if_pos rfl
                rw [hup] at hrd
                have HXX := hid hxx
                obtain ⟨xc, xl, xe⟩ := xx
                obtain ⟨a0, a1, a2⟩ := hrd
                dsimp only at a0 a1 a2
                clear hxx hup
                have HKEEP := hid (show TbR W4 (w.heap.size + 1) (upd T i ⟨xc, xl, xe⟩) i n from HTI.out)
                by_cases q1 : yc < xc
                · have HX := hid (HSN.out.trans (bst1_yes HWY.out (.inl q1)))
                  go_wp2_with fail
                  go_quiet (fail)
                  go_wp2
                  go_roundw
                  case rel => exact ⟨j + 1, (y :: ys) ++ [j], false, rfl, by go_num, hid rfl, ⟨by omega, by omega⟩, HJY, hid ((HBT.out _ ⟨yc, yl, j⟩).up (by omega) (fun k hk => if_neg (by omega))), hid (fun _ => (by rw [HX.out]; exact HBT.out _ ⟨yc, yl, j⟩)), hid (HSTB.out _ ⟨yc, yl, j⟩)⟩
                  case measure => simp [intOf]; omega
                · cases q2 : ((yc) == xc) with
                  | true =>
                    by_cases q3 : yl ≤ xl
                    · have HX := hid (HSN.out.trans (bst1_yes HWY.out (.inr ⟨beq_iff_eq.1 q2, q3⟩)))
                      go_wp2_with fail
                      go_quiet (fail)
                      go_wp2
                      go_roundw
                      case rel => exact ⟨j + 1, (y :: ys) ++ [j], false, rfl, by go_num, hid rfl, ⟨by omega, by omega⟩, HJY, hid ((HBT.out _ ⟨yc, yl, j⟩).up (by omega) (fun k hk => if_neg (by omega))), hid (fun _ => (by rw [HX.out]; exact HBT.out _ ⟨yc, yl, j⟩)), hid (HSTB.out _ ⟨yc, yl, j⟩)⟩
                      case measure => simp [intOf]; omega
                    · have HX := hid (HSN.out.trans (bst1_no HWY.out (fun h => h.elim q1 (fun h => q3 h.2))))
                      go_wp2_with fail
                      go_quiet (fail)
                      go_wp2
                      go_roundw
                      case rel => exact ⟨j + 1, (y :: ys) ++ [j], false, rfl, by go_num, hid rfl, ⟨by omega, by omega⟩, HJY, hid (HT4.out.keep rfl), hid (fun _ => (by rw [HX.out]; exact HKEEP.out.keep rfl)), hid (below_drN HBX.out _)⟩
                      case measure => simp [intOf]; omega
                  | false =>
                    have HX := hid (HSN.out.trans (bst1_no HWY.out (fun h => h.elim q1 (fun h => (beq_eq_false_iff_ne.1 q2) h.1))))
                    have q2n : ¬ yc = xc := beq_eq_false_iff_ne.1 q2
                    have q2d : decide (yc = xc) = false := decide_eq_false q2n
                    have q1d : decide (yc < xc) = false := decide_eq_false q1
                    go_wp2_with fail
                    go_quiet (fail)
                    go_wp2
                    go_roundw
                    case rel => exact ⟨j + 1, (y :: ys) ++ [j], false, rfl, by go_num, hid rfl, ⟨by omega, by omega⟩, HJY, hid (HT4.out.keep rfl), hid (fun _ => (by rw [HX.out]; exact HKEEP.out.keep rfl)), hid (below_drN HBX.out _)⟩
                    case measure => simp [intOf]; omega
        · have hjli : ¬ (j : Int) ≤ (q : Int) := by omega
          have hbest := HJS.out.best HO.out (by have := HN.out; omega) HQ.out (by omega) (T := T) (fun k h1 h2 => HTO.out k h1 h2)
          have HG2 := hid (good_step (by have := HN.out; omega) HGD.out hbest.2.1)
          have HTO2 := hid (tok_step (fun k h1 h2 => HTO.out k h1 h2) hbest.2.2)
          have HT2 := hid (HTJ.out hbest.1)
          clear hbest HGD HTO HTJ HT
          go_wp2
          go_roundw
          case rel => exact ⟨i, _, rfl, by omega, HT2, HG2, HTO2, HBW⟩
          case measure => simp [intOf]
end Go.Proofs.YtkopefljnhgdkaaGreatDoor
