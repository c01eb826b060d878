/- The contract of Build (package table). -/
import Derived.Test.YtljlhlcoaajggaaInsert2
import Derived.Test.YtljlhlcoaajggaaTbl2
namespace Go.Proofs.Ytljlhlcoaajggaa
open Go.RowKit

/-- What Build finds wrong: the error and the place. -/
def bo (l : List Rk) (r : Int) : Option (Int × Nat) := if icl r = true then (if 4096 < l.length then some (6, 0) else flt [] 0 l) else some (30, 0)
theorem own_keep {w w' : World} {B e size n : Nat} {v : Value} {xs : List Value} (h : w.ownsRow B e size v n xs) (hb : Below w.heap.size w w') : w'.ownsRow B e size v n xs := by
  refine ⟨h.1, ?_⟩
  rcases h.2 with h' | ⟨q, cap, cur, hv, hB, hg, rest⟩
  · exact .inl h'
  · exact .inr ⟨q, cap, cur, hv, hB, (hb.block q (Array.getElem?_eq_some_iff.1 hg).1).trans hg, rest⟩
theorem TbAt.below {B T : Nat} {F : List (List Nat)} {rest : Nat} {w w' : World} (h : TbAt B T F rest w) (hb : Below w.heap.size w w') : TbAt B T F rest w' := by
  obtain ⟨g, cap, hT, hr, ho, h8, hF⟩ := h
  exact ⟨g, cap, (hb.block T (lt_of_heap hT)).trans hT, own_keep hr hb, ho, h8, hF⟩
theorem own_mono {w : World} {B B' e size n : Nat} {v : Value} {xs : List Value} (h : w.ownsRow B e size v n xs) (hb : B' ≤ B) : w.ownsRow B' e size v n xs := by
  refine ⟨h.1, ?_⟩
  rcases h.2 with h' | ⟨q, cap, cur, hv, hB, rest⟩
  · exact .inl h'
  · exact .inr ⟨q, cap, cur, hv, Nat.le_trans hb hB, rest⟩
theorem TbAt.mono {B B' T : Nat} {F : List (List Nat)} {rest : Nat} {w : World} (h : TbAt B T F rest w) (hb : B' ≤ B) : TbAt B' T F rest w := by
  obtain ⟨g, cap, hT, hr, ho, h8, hF⟩ := h
  exact ⟨g, cap, hT, own_mono hr hb, ho, h8, hF⟩
theorem clq_len (r : Nat) : ∀ (A : List Tr) (b : Nat), b ≤ 1114112 → Ris b A → b + (clq r b A).length ≤ 1114112
  | [], b, hb, _ => by simpa [clq] using hb
  | g :: A, b, hb, h => by
    obtain ⟨h1, h2, h3, h4, h5⟩ := h
    have := clq_len r A (g.2.1 + 1) (by omega) h5
    simp only [clq, List.length_append, List.length_replicate]
    omega
theorem clA_len (r : Nat) (A : List Tr) (h : Ris 0 A) : (clA r A).length = 1114112 := by
  have := clq_len r A 0 (by omega) h
  unfold clA
  rw [List.length_append, List.length_replicate]
  omega
theorem rd_own {B n cap : Nat} {ao : Option Addr} {A : List Tr} {w : World} (h : w.ownsRow B 36 3 (.slice ao n cap) n (rks A)) : RdK w ao (A.map rkT) := by
  intro k x hk
  rw [List.getElem?_map] at hk
  obtain ⟨t, ht, rfl⟩ := Option.map_eq_some_iff.1 hk
  have hn : A.length = n := by have := h.1; rw [rks_len] at this; omega
  have hkl := (List.getElem?_eq_some_iff.1 ht).1
  rcases h.2 with ⟨h', h0⟩ | ⟨q, cap', cur, h', hb, hg, hnc, hcm, hcs, htk⟩
  · omega
  · simp only [Value.slice.injEq, true_and] at h'
    obtain ⟨rfl, rfl⟩ := h'
    have hc : ∀ j v, (rkc (rkT t))[j]? = some v → w.cell? ⟨q, k * 3 + j, none⟩ = some v := fun j v hj => by
      have hj3 := (List.getElem?_eq_some_iff.1 hj).1
      have hj3' : j < 3 := hj3
      rw [h.cellAt _ (by omega)]
      have e : A = A.take k ++ t :: A.drop (k + 1) := by
        have := List.getElem_of_getElem? ht
        obtain ⟨_, this⟩ := this
        rw [← this, List.getElem_cons_drop, List.take_append_drop]
      rw [e, rks_app]
      have hlk : (rks (A.take k)).length = k * 3 := by rw [rks_len, List.length_take]; omega
      rw [List.getElem?_append_right (by omega), hlk, show k * 3 + j - k * 3 = j by omega]
      show (rkc (rkT t) ++ rks (A.drop (k + 1)))[j]? = _
      rw [List.getElem?_append_left hj3]
      exact hj
    have ha : (⟨q, 0, none⟩ : Addr).add (k * 3) = ⟨q, k * 3, none⟩ := by rw [Addr.add_lit, Nat.zero_add]
    refine ⟨_, rfl, (h.lt q rfl).2, ?_, ?_, ?_⟩
    · rw [ha]; exact hc 0 _ rfl
    · rw [ha]; exact hc 1 _ rfl
    · rw [ha]; exact hc 2 _ rfl

set_option maxHeartbeats 4000000 in
set_option maxRecDepth 100000 in
theorem build_any (ao : Option Addr) (ac : Nat) (l : List Rk) (r : Int) (w : World) (ha : RdK w ao l) (hl : l.length ≤ 1000000000) :
    Calls Try.prog 12 #[.slice ao l.length ac, .int .i64 r] w fun e w' => Below w.heap.size w w' ∧
      ((∃ c k, bo l r = some (c, k) ∧ e = .returned (.tuple #[.pointer none, .int .i64 c, .int .i64 (k : Int)])) ∨
       (bo l r = none ∧ ∃ T F, e = .returned (.tuple #[.pointer (some ⟨T, 0, none⟩), .int .i64 0, .int .i64 0]) ∧ w.heap.size ≤ T ∧ F.flatten = clA r.toNat (srt [] l) ∧ (srt [] l).length ≤ 4096 ∧ TbAt w.heap.size T F r.toNat w')) := by
  have HA := hid ha
  clear ha
  cases hr : icl r with
  | false =>
    have HZ := hid (show bo l r = some (30, 0) by unfold bo; rw [hr]; rfl)
    go_enter Try.func12, Try.ntmps12
    go_wp2_with (go_at_call 35; refine (isClass_any r _).mono ?_; rintro e w2 ⟨rfl, hw2⟩; obtain rfl := hw2.symm; rw [hr])
    go_ret3
    exact ⟨Below.refl _ _, .inl ⟨30, 0, HZ.out, rfl⟩⟩
  | true =>
    by_cases hm : 4096 < l.length
    · have HZ := hid (show bo l r = some (6, 0) by unfold bo; rw [hr, if_pos rfl, if_pos hm])
      have hm' : (4096 : Int) < (l.length : Int) := by omega
      go_enter Try.func12, Try.ntmps12
      go_wp2_with (go_at_call 35; refine (isClass_any r _).mono ?_; rintro e w2 ⟨rfl, hw2⟩; obtain rfl := hw2.symm; rw [hr])
      go_ret3
      exact ⟨Below.refl _ _, .inl ⟨6, 0, HZ.out, rfl⟩⟩
    · have HZ := hid (show bo l r = flt [] 0 l by unfold bo; rw [hr, if_pos rfl, if_neg hm])
      have hm' : ¬ (4096 : Int) < (l.length : Int) := by omega
      obtain ⟨r0, rfl⟩ : ∃ r0 : Nat, r = (r0 : Int) := ⟨r.toNat, by unfold icl at hr; have := of_decide_eq_true hr; omega⟩
      have hr1 : r0 < 256 := by unfold icl at hr; have := of_decide_eq_true hr; omega
      obtain ⟨B, hBB⟩ : ∃ B, B = w.heap.size := ⟨_, rfl⟩
      have HBE := hid hBB
      rw [← hBB]
      clear hBB
      go_enter Try.func12, Try.ntmps12
      go_wp2_with (go_at_call 35; refine (isClass_any _ _).mono ?_; rintro e w2 ⟨rfl, hw2⟩; obtain rfl := hw2.symm; rw [hr])
      go_loopw [7, 20] (fun x n wr => ∃ (i : Nat) (A : List Tr) (vo : Option Addr) (cap : Nat), x = .slice vo i cap ∧ n = .int .i64 (i : Int) ∧ i ≤ l.length ∧ Hid (A.length = i) ∧ Hid (Ris 0 A) ∧ Hid (flt A i (l.drop i) = flt [] 0 l) ∧ Hid (srt A (l.drop i) = srt [] l) ∧ Hid (wr.ownsRow B 36 3 (.slice vo i cap) i (rks A)) ∧ Hid (Below B w wr)) (fun _ n _ => l.length - (intOf n).toNat)
      case atStart => exact ⟨0, [], none, 0, rfl, rfl, by omega, rfl, trivial, rfl, rfl, World.ownsRow_nil w B 36 3, Below.refl _ _⟩
      case round =>
        obtain ⟨i, A, vo, cap, rfl, rfl, hi, HAI, HRA, HFA, HSA, HOA, HB⟩ := hrel
        have hwB : B ≤ wr.heap.size := by have h5 := HBE.out; have h6 := HB.out.size; omega
        have HBW := hid (show Below w.heap.size w wr by have h5 := HBE.out; rw [← h5]; exact HB.out)
        by_cases hlt : i < l.length
        · obtain ⟨a, rfl, ha, a0, a1, a2⟩ := (HA.out.below HBW.out) i l[i] (List.getElem?_eq_getElem hlt)
          have hdr : l.drop i = l[i] :: l.drop (i + 1) := List.drop_eq_getElem_cons hlt
          rw [hdr] at HFA HSA
          have i3 : (i : Int) < (l.length : Int) := by omega
          obtain ⟨gx, hx⟩ : ∃ gx, l[i] = gx := ⟨_, rfl⟩
          rw [hx] at a0 a1 a2 HFA HSA
          clear hx hdr
          by_cases hok : okR gx = true
          · have hfl : flt A i (gx :: l.drop (i + 1)) = if A.any (fun x => mt x (toT gx)) = true then some (8, i) else flt (insR (toT gx) A) (i + 1) (l.drop (i + 1)) := by
              show (if okR gx = true then _ else _) = _
              rw [if_pos hok]
            rw [hfl] at HFA
            obtain ⟨t1, t2, t3⟩ := toT_ok hok
            have hrt := rkT_toT hok
            obtain ⟨t, ht⟩ : ∃ t, t = toT gx := ⟨_, rfl⟩
            change Hid (srt (insR (toT gx) A) (l.drop (i + 1)) = srt [] l) at HSA
            rw [← ht] at HFA HSA t1 t2 t3 hrt
            rw [← hrt] at a0 a1 a2
            clear ht hrt hok hfl gx
            obtain ⟨lo, hi', cl⟩ := t
            dsimp only [rkT] at a0 a1 a2 t1 t2 t3
            have f1 : ¬ (lo : Int) < 0 := by omega
            have f2 : ¬ (1114111 : Int) < (hi' : Int) := by omega
            have f3 : ¬ (hi' : Int) < (lo : Int) := by omega
            have f4 : icl (cl : Int) = true := by unfold icl; exact decide_eq_true ⟨by omega, by omega⟩
            have hGA := heap_alloc_new wr (.cells #[.int .i32 (lo : Int), .int .i32 (hi' : Int), .int .i64 (cl : Int)] 36)
            have HOA1 := hid (HOA.out.alloc (.cells #[.int .i32 (lo : Int), .int .i32 (hi' : Int), .int .i64 (cl : Int)] 36))
            have HBA := hid (HB.out.alloc hwB (.cells #[.int .i32 (lo : Int), .int .i32 (hi' : Int), .int .i64 (cl : Int)] 36))
            have HGA := hid hGA
            have HLT := hid HOA.out.lt
            clear hGA
            obtain ⟨s, hs⟩ : ∃ s, s = spt (lo, hi', cl) A := ⟨_, rfl⟩
            have hsl : s ≤ A.length := by rw [hs]; exact spt_le _ _
            have hai := HAI.out
            have HS1 := hid (fun (W : World) (hb : RdK W vo (A.map rkT)) => search_any vo cap (A.map rkT) ((lo : Int), (hi' : Int), (cl : Int)) s W hb (by rw [List.length_map]; omega) (by rw [List.length_map]; omega)
              (fun k x hk hx => by
                rw [List.getElem?_map] at hx
                obtain ⟨y, hy, rfl⟩ := Option.map_eq_some_iff.1 hx
                exact (apt_m1 y (lo, hi', cl)).2 (spt_low (lo, hi', cl) A k y (by rw [← hs]; exact hk) hy))
              (fun k x hk hx e => by
                rw [List.getElem?_map] at hx
                obtain ⟨y, hy, rfl⟩ := Option.map_eq_some_iff.1 hx
                exact spt_high (lo, hi', cl) A 0 k y HRA.out (by rw [← hs]; exact hk) hy ((apt_m1 y (lo, hi', cl)).1 e)))
            rw [List.length_map, hai] at HS1
            have HHT := hid (show hit ((A.map rkT)[s]?) ((lo : Int), (hi' : Int), (cl : Int)) = A.any (fun x => mt x (lo, hi', cl)) by rw [hs]; exact hit_spt (lo, hi', cl) A 0 HRA.out t1)
            have HINS := hid (show A.take s ++ (lo, hi', cl) :: A.drop s = insR (lo, hi', cl) A by rw [hs, insR_eq])
            have HSL := hid hsl
            clear hs hsl hai HA
            have HL9 := hid (show A.length ≤ 100000000 by have h5 := HAI.out; omega)
            cases hany : A.any (fun x => mt x (lo, hi', cl)) with
            | true =>
              rw [HHT.out, hany] at HS1
              have HFF := hid (show flt [] 0 l = some (8, i) by rw [← HFA.out, hany]; rfl)
              clear hany HHT HFA HSA
              go_wp2_with (first
                | (go_at_call 35; refine (isClass_any _ _).mono ?_; rintro e w2 ⟨rfl, hw2⟩; obtain rfl := hw2.symm; rw [f4])
                | (go_at_call 36; refine (HS1.out _ (rd_own HOA1.out)).mono ?_; rintro e w2 ⟨rfl, hb2⟩; have HB2 := hid (HBA.out.trans (hb2.mono (by simp; omega))); clear hb2))
              go_ret3
              exact ⟨HB2.out, .inl ⟨8, i, HZ.out.trans HFF.out, rfl⟩⟩
            | false =>
              rw [HHT.out, hany] at HS1
              rw [hany, if_neg (by decide)] at HFA
              have HRI := hid (ris_ins (lo, hi', cl) t1 t2 t3 A 0 HRA.out (Nat.zero_le _) hany)
              have HIL := hid (insR_len (lo, hi', cl) A)
              clear hany HHT
              go_wp2_with (first
                | (go_at_call 35; refine (isClass_any _ _).mono ?_; rintro e w2 ⟨rfl, hw2⟩; obtain rfl := hw2.symm; rw [f4])
                | (go_at_call 36; refine (HS1.out _ (rd_own HOA1.out)).mono ?_; rintro e w2 ⟨rfl, hb2⟩; have HB2 := hid (HBA.out.trans (hb2.mono (by simp; omega)));
                   have hG2 := (hb2.block wr.heap.size (by simp)).trans HGA.out;
                   have x0 : w2.cell? ⟨wr.heap.size, 0, none⟩ = some (.int .i32 (lo : Int)) := by rw [cell_of_row w2 wr.heap.size 0 _ 36 (0, 0) hG2]; rfl;
                   have x1 : w2.cell? ⟨wr.heap.size, 1, none⟩ = some (.int .i32 (hi' : Int)) := by rw [cell_of_row w2 wr.heap.size 1 _ 36 (0, 0) hG2]; rfl;
                   have x2 : w2.cell? ⟨wr.heap.size, 2, none⟩ = some (.int .i64 (cl : Int)) := by rw [cell_of_row w2 wr.heap.size 2 _ 36 (0, 0) hG2]; rfl;
                   have HO2 := hid (own_keep HOA1.out hb2);
                   clear hb2 hG2))
              have HI := hid (insert_any B w2.heap.size s A (lo, hi', cl) (.slice vo i cap) (w2.alloc (.cells #[.int .i32 (lo : Int), .int .i32 (hi' : Int), .int .i64 (cl : Int)] 36)) (by have h5 := HAI.out; rw [h5]; exact HO2.out.alloc _) (by have h5 := HBE.out; have h6 := HB2.out.size; simp; omega) HL9.out HSL.out (fun e => by have h5 := (HO2.out.lt _ e).2; omega) (heap_alloc_new w2 _))
              rw [HAI.out, HINS.out] at HI
              have HB3 := hid (HB2.out.alloc (show B ≤ w2.heap.size by have h5 := HBE.out; have h6 := HB2.out.size; omega) (.cells #[.int .i32 (lo : Int), .int .i32 (hi' : Int), .int .i64 (cl : Int)] 36))
              refine HI.out.mono ?_
              rintro e w4 ⟨v', rfl, o4, b4⟩
              obtain ⟨q', cap', rfl, _, _⟩ := o4.form (by omega)
              have HB4 := hid (HB3.out.trans b4)
              have HO4 := hid o4
              have HIL2 := hid (HIL.out.trans (by rw [HAI.out]))
              clear o4 b4 x0 x1 x2 HI HS1
              go_wp2
              go_roundw
              case rel => exact ⟨i + 1, insR (lo, hi', cl) A, some ⟨q', 0, none⟩, cap', rfl, by go_num, by omega, HIL2, HRI, HFA, HSA, HO4, HB4⟩
              case measure => simp [intOf]; omega
          · have HFF := hid (show flt [] 0 l = some (30, i) by
              rw [← HFA.out]
              show (if okR gx = true then _ else _) = _
              rw [if_neg hok])
            have HFB := hid (fun (W : World) (hb : Below wr.heap.size wr W) => HB.out.trans (hb.mono hwB))
            obtain ⟨g0, g1, g2⟩ := gx
            dsimp only at a0 a1 a2
            have hnk : ¬ (((0 ≤ g0 ∧ g1 ≤ 1114111 ∧ g0 ≤ g1)) ∧ icl g2 = true) := fun h => hok (by
              unfold okR
              rw [h.2, Bool.and_true]
              exact decide_eq_true h.1)
            have HAL := hid ((Below.refl wr.heap.size wr).alloc (Nat.le_refl _) (.cells #[.int .i32 g0, .int .i32 g1, .int .i64 g2] 36))
            clear hok HFA HSA HA
            by_cases c0 : g0 < 0
            · clear hnk
              go_wp2
              go_ret3
              exact ⟨HFB.out _ HAL.out, .inl ⟨30, i, HZ.out.trans HFF.out, rfl⟩⟩
            · by_cases c1 : 1114111 < g1
              · clear hnk
                go_wp2
                go_ret3
                exact ⟨HFB.out _ HAL.out, .inl ⟨30, i, HZ.out.trans HFF.out, rfl⟩⟩
              · by_cases c2 : g1 < g0
                · clear hnk
                  go_wp2
                  go_ret3
                  exact ⟨HFB.out _ HAL.out, .inl ⟨30, i, HZ.out.trans HFF.out, rfl⟩⟩
                · have c3 : icl g2 = false := by
                    cases h : icl g2 with
                    | false => rfl
                    | true => exact absurd ⟨⟨by omega, by omega, by omega⟩, h⟩ hnk
                  clear hnk
                  go_wp2_with (go_at_call 35; refine (isClass_any _ _).mono ?_; rintro e w2 ⟨rfl, hw2⟩; obtain rfl := hw2.symm; rw [c3])
                  go_ret3
                  exact ⟨HFB.out _ HAL.out, .inl ⟨30, i, HZ.out.trans HFF.out, rfl⟩⟩
        · have hie : i = l.length := by omega
          have HFF := hid (show flt [] 0 l = none by rw [← HFA.out, List.drop_of_length_le (by omega)]; rfl)
          have HSE := hid (show srt [] l = A by rw [← HSA.out, List.drop_of_length_le (by omega)]; rfl)
          have hlt' : ¬ (i : Int) < (l.length : Int) := by omega
          have HM := hid (made_any vo cap A r0 wr (rd_own HOA.out) (by have h5 := HAI.out; omega) hr1 HRA.out)
          rw [HAI.out] at HM
          have HLA := hid (show (srt [] l).length ≤ 4096 by rw [HSE.out, HAI.out]; omega)
          clear hie
          go_wp2_with fail
          refine HM.out.mono ?_
          rintro e w4 ⟨rfl, ⟨bv, hd⟩, hb4⟩
          obtain ⟨F, hF, hT⟩ := tb_of_mk hd (clA_len r0 A HRA.out)
          have HT := hid hT
          have HF := hid hF
          have HB4 := hid (HB.out.trans (hb4.mono hwB))
          clear hT hF hd hb4 HM
          go_wp2
          go_ret3
          refine ⟨HB4.out, .inr ⟨HZ.out.trans HFF.out, wr.heap.size, F, rfl, hwB, ?_, HLA.out, ?_⟩⟩
          · rw [HSE.out]; exact HF.out
          · exact HT.out.mono hwB
end Go.Proofs.Ytljlhlcoaajggaa
