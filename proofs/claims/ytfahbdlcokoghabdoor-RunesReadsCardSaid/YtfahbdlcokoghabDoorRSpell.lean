/- The contract of the document's spelling. -/
import Derived.Test.YtfahbdlcokoghabDoorRRead
namespace Go.Proofs.YtfahbdlcokoghabDoor
open Go.RowKit

theorem hex_pre (l : List UInt8) (b j : Nat) (hj : j ≤ hxn l b) (m : Nat) (hm : m ≤ j) : ∀ c, c ∈ (l.drop b).take m → isHx c = true := fun c hc => by
  have e : (l.drop b).take m = ((l.drop b).take (hxn l b)).take m := by rw [List.take_take, Nat.min_eq_left (by omega)]
  rw [e] at hc
  exact hxn_all l b c (List.mem_of_mem_take hc)
theorem hex_more (l : List UInt8) (b j : Nat) (hlt : b + j < l.length) : (l.drop b).take (j + 1) = (l.drop b).take j ++ [l[b + j]] := by
  have h : j < (l.drop b).length := by rw [List.length_drop]; omega
  rw [List.take_succ_eq_append_getElem h, List.getElem_drop]

set_option maxHeartbeats 2000000 in
set_option maxRecDepth 100000 in
theorem rspell_code (l : List UInt8) (p : Nat) (w : World) (hp : p + 1 < l.length) (hl : l.length ≤ 100000) (hpr : pre (l.drop p) [85, 43] = true) :
    Calls Tryd.prog 24 #[.string ⟨l.toArray⟩, .int .i64 p] w fun e w' => e = .returned (rsv (rsp l p)) ∧ Below w.heap.size w w' := by
  have HSZ := hid (show (⟨l.toArray⟩ : ByteArray).size = l.length by show l.toArray.size = _; simp)
  have HPR := hid hpr
  rw [pre_two hp] at hpr
  have hpr2 := of_decide_eq_true hpr
  have sz0 : p < (⟨l.toArray⟩ : ByteArray).size := by rw [HSZ.out]; omega
  have sz1 : p + 1 < (⟨l.toArray⟩ : ByteArray).size := by rw [HSZ.out]; omega
  have b0 : (⟨l.toArray⟩ : ByteArray)[p]'sz0 = 85 := hpr2.1
  have b1 : (⟨l.toArray⟩ : ByteArray)[p + 1]'sz1 = 43 := hpr2.2
  clear hpr hpr2
  have t1 : (p : Int) + 1 < (l.length : Int) := by omega
  go_enter Tryd.func24, Tryd.ntmps24
  go_wp2
  go_loopw [8, 9, 10, 11] (fun n k _ _ wr => ∃ j nn : Nat, k = .int .i64 (j : Int) ∧ n = .int .i64 (nn : Int) ∧ nn ≤ 16777215 ∧ p + 2 + j ≤ l.length ∧ Hid (hxn l (p + 2) = j + hxn l (p + 2 + j)) ∧ Hid (nn = hxs 0 ((l.drop (p + 2)).take (min j 6))) ∧ wr = w) (fun _ k _ _ _ => (l.length + 1 - intOf k).toNat)
  case atStart => exact ⟨0, 0, rfl, rfl, by omega, by omega, by simp [Hid], by simp [Hid, hxs], rfl⟩
  case round =>
    obtain ⟨j, nn, rfl, rfl, hnn, hj, HZN, HNV, hw⟩ := hrel
    obtain rfl := hw.symm
    by_cases hlt : p + 2 + j < l.length
    · have hszk : p + 2 + j < (⟨l.toArray⟩ : ByteArray).size := by rw [HSZ.out]; exact hlt
      have hq : (⟨l.toArray⟩ : ByteArray)[p + 2 + j]'hszk = l[p + 2 + j] := rfl
      have tl : (p : Int) + 2 + j < (l.length : Int) := by omega
      have HMO := hid (hex_more l (p + 2) j hlt)
      by_cases hh : isHx l[p + 2 + j] = true
      · have HZ2 := hid (show hxn l (p + 2) = (j + 1) + hxn l (p + 2 + (j + 1)) by rw [HZN.out, hxn_yes hlt hh, Nat.add_assoc (p + 2) j 1]; omega)
        have hv := hxV_lt hh
        have hdv : dgv l[p + 2 + j] = hxV l[p + 2 + j] := by unfold dgv; rw [if_pos hh]
        obtain ⟨v, hvv⟩ : ∃ v, v = hxV l[p + 2 + j] := ⟨_, rfl⟩
        have HD := hid (digit_eq l[p + 2 + j] v true w (by rw [hvv, hdv]) hh.symm)
        have HN6 := hid (show ∀ k, k < 6 → j = k → nn * 16 + v = hxs 0 ((l.drop (p + 2)).take (min (j + 1) 6)) ∧ nn * 16 + v ≤ 16777215 from fun k hk e => by
          have hj6 : min j 6 = j := by omega
          have hj7 : min (j + 1) 6 = j + 1 := by omega
          have h := HNV.out
          rw [hj6] at h
          have e1 : nn * 16 + v = hxs 0 ((l.drop (p + 2)).take (j + 1)) := by rw [HMO.out, hxs_snoc, ← h, hvv]
          rw [hj7]
          refine ⟨e1, ?_⟩
          rw [e1]
          exact hxs_six _ (by rw [List.length_take]; omega) (hex_pre l (p + 2) (j + 1) (by have := HZ2.out; omega) _ (Nat.le_refl _)))
        have HN7 := hid (show 6 ≤ j → nn = hxs 0 ((l.drop (p + 2)).take (min (j + 1) 6)) from fun h => by
          have e1 : min (j + 1) 6 = min j 6 := by omega
          rw [e1]; exact HNV.out)
        rw [← hvv] at hv
        generalize l[p + 2 + j] = c at *
        clear hdv hvv hh HMO HZN HNV
        by_cases h6 : j < 6
        · obtain ⟨HA, hA⟩ := HN6.out j h6 rfl
          have HA := hid HA
          have h6' : (j : Int) < 6 := by omega
          have ew : (16 : Int) * nn + v = ((nn * 16 + v : Nat) : Int) := by omega
          have HEW := hid ew
          clear ew HN6 HN7
          go_wp2_with fail
          refine HD.out.mono ?_
          rintro e w1 ⟨rfl, hw1⟩
          obtain rfl := hw1.symm
          clear hw1 HD
          go_wp2
          go_roundw
          case rel => exact ⟨j + 1, nn * 16 + v, by go_num, by rw [← HEW.out], hA, by omega, HZ2, HA, trivial⟩
          case measure => simp [intOf]; omega
        · have HA := hid (HN7.out (by omega))
          have h6' : ¬ (j : Int) < 6 := by omega
          clear HN6 HN7
          go_wp2_with fail
          refine HD.out.mono ?_
          rintro e w1 ⟨rfl, hw1⟩
          obtain rfl := hw1.symm
          clear hw1 HD
          go_wp2
          go_roundw
          case rel => exact ⟨j + 1, nn, by go_num, rfl, hnn, by omega, HZ2, HA, trivial⟩
          case measure => simp [intOf]; omega
      · have HZ := hid (show hxn l (p + 2) = j by rw [HZN.out, hxn_no hlt hh]; rfl)
        have hh' : isHx l[p + 2 + j] = false := by simpa using hh
        have HD := hid (digit_eq l[p + 2 + j] 0 false w (by unfold dgv; rw [if_neg hh]) hh'.symm)
        clear hh hh' HMO
        generalize l[p + 2 + j] = c at *
        go_wp2_with fail
        refine HD.out.mono ?_
        rintro e w1 ⟨rfl, hw1⟩
        obtain rfl := hw1.symm
        clear hw1 HD
        have HZ6 := hid (show ∀ c, c ∈ (l.drop (p + 2)).take j → isHx c = true from hex_pre l (p + 2) j (by have := HZ.out; omega) j (Nat.le_refl _))
        by_cases c1 : j < 4
        · have HC := hid (rsp_code1 HPR.out (.inl (by rw [HZ.out]; exact c1)))
          have c1' : (j : Int) < 4 := by omega
          clear HZ HZ6 HNV HZN
          go_wp2
          all_goals (try rw [Exit.noGoto_ret])
          all_goals (try simp only [Exit.inBlock, Exit.then])
          all_goals refine bodyPost_ret (results_tmp4 rfl _ _ _) rfl ?_
          all_goals exact ⟨by rw [HC.out]; rfl, Below.refl _ _⟩
        · by_cases c2 : 6 < j
          · have HC := hid (rsp_code1 HPR.out (.inr (by rw [HZ.out]; exact c2)))
            have c1' : ¬ (j : Int) < 4 := by omega
            have c2' : 6 < (j : Int) := by omega
            clear HZ HZ6 HNV HZN
            go_wp2
            all_goals (try rw [Exit.noGoto_ret])
            all_goals (try simp only [Exit.inBlock, Exit.then])
            all_goals refine bodyPost_ret (results_tmp4 rfl _ _ _) rfl ?_
            all_goals exact ⟨by rw [HC.out]; rfl, Below.refl _ _⟩
          · have hmin : min j 6 = j := by omega
            have HNV2 := hid (show nn = hxs 0 ((l.drop (p + 2)).take j) by have h := HNV.out; rw [hmin] at h; exact h)
            have c1' : ¬ (j : Int) < 4 := by omega
            have c2' : ¬ 6 < (j : Int) := by omega
            have hco : ¬ (hxn l (p + 2) < 4 ∨ 6 < hxn l (p + 2)) := by rw [HZ.out]; omega
            have H2 := hid (rsp_code2 HPR.out hco)
            have H3 := hid (rsp_code3 HPR.out hco)
            rw [HZ.out, ← HNV2.out] at H2 H3
            clear HZ HZ6 HNV HNV2 hmin HZN hco
            by_cases c3 : 1114111 < nn
            · have HC := hid (H2.out c3)
              have c3' : (1114111 : Int) < (nn : Int) := by omega
              clear H2 H3
              go_wp2
              all_goals (try rw [Exit.noGoto_ret])
              all_goals (try simp only [Exit.inBlock, Exit.then])
              all_goals refine bodyPost_ret (results_tmp4 rfl _ _ _) rfl ?_
              all_goals exact ⟨by rw [HC.out]; rfl, Below.refl _ _⟩
            · have HC := hid (H3.out c3)
              have c3' : ¬ (1114111 : Int) < (nn : Int) := by omega
              have ev : IntKind.i32.wrap (nn : Int) = (nn : Int) := by rw [IntKind.wrap_i32]; omega
              clear H2 H3
              go_wp2
              all_goals (try rw [Exit.noGoto_ret])
              all_goals (try simp only [Exit.inBlock, Exit.then])
              all_goals refine bodyPost_ret (results_tmp4 rfl _ _ _) rfl ?_
              all_goals exact ⟨by rw [HC.out]; rfl, Below.refl _ _⟩
    · have HZ := hid (show hxn l (p + 2) = j by rw [HZN.out, hxn_end hlt]; rfl)
      have tl : ¬ (p : Int) + 2 + j < (l.length : Int) := by omega
      have HZ6 := hid (show ∀ c, c ∈ (l.drop (p + 2)).take j → isHx c = true from hex_pre l (p + 2) j (by have := HZ.out; omega) j (Nat.le_refl _))
      by_cases c1 : j < 4
      · have HC := hid (rsp_code1 HPR.out (.inl (by rw [HZ.out]; exact c1)))
        have c1' : (j : Int) < 4 := by omega
        clear HZ HZ6 HNV HZN
        go_wp2
        all_goals (try rw [Exit.noGoto_ret])
        all_goals (try simp only [Exit.inBlock, Exit.then])
        all_goals refine bodyPost_ret (results_tmp4 rfl _ _ _) rfl ?_
        all_goals exact ⟨by rw [HC.out]; rfl, Below.refl _ _⟩
      · by_cases c2 : 6 < j
        · have HC := hid (rsp_code1 HPR.out (.inr (by rw [HZ.out]; exact c2)))
          have c1' : ¬ (j : Int) < 4 := by omega
          have c2' : 6 < (j : Int) := by omega
          clear HZ HZ6 HNV HZN
          go_wp2
          all_goals (try rw [Exit.noGoto_ret])
          all_goals (try simp only [Exit.inBlock, Exit.then])
          all_goals refine bodyPost_ret (results_tmp4 rfl _ _ _) rfl ?_
          all_goals exact ⟨by rw [HC.out]; rfl, Below.refl _ _⟩
        · have hmin : min j 6 = j := by omega
          have HNV2 := hid (show nn = hxs 0 ((l.drop (p + 2)).take j) by have h := HNV.out; rw [hmin] at h; exact h)
          have c1' : ¬ (j : Int) < 4 := by omega
          have c2' : ¬ 6 < (j : Int) := by omega
          have hco : ¬ (hxn l (p + 2) < 4 ∨ 6 < hxn l (p + 2)) := by rw [HZ.out]; omega
          have H2 := hid (rsp_code2 HPR.out hco)
          have H3 := hid (rsp_code3 HPR.out hco)
          rw [HZ.out, ← HNV2.out] at H2 H3
          clear HZ HZ6 HNV HNV2 hmin HZN hco
          by_cases c3 : 1114111 < nn
          · have HC := hid (H2.out c3)
            have c3' : (1114111 : Int) < (nn : Int) := by omega
            clear H2 H3
            go_wp2
            all_goals (try rw [Exit.noGoto_ret])
            all_goals (try simp only [Exit.inBlock, Exit.then])
            all_goals refine bodyPost_ret (results_tmp4 rfl _ _ _) rfl ?_
            all_goals exact ⟨by rw [HC.out]; rfl, Below.refl _ _⟩
          · have HC := hid (H3.out c3)
            have c3' : ¬ (1114111 : Int) < (nn : Int) := by omega
            have ev : IntKind.i32.wrap (nn : Int) = (nn : Int) := by rw [IntKind.wrap_i32]; omega
            clear H2 H3
            go_wp2
            all_goals (try rw [Exit.noGoto_ret])
            all_goals (try simp only [Exit.inBlock, Exit.then])
            all_goals refine bodyPost_ret (results_tmp4 rfl _ _ _) rfl ?_
            all_goals exact ⟨by rw [HC.out]; rfl, Below.refl _ _⟩

set_option maxHeartbeats 2000000 in
set_option maxRecDepth 100000 in
theorem rspell_quot (l : List UInt8) (p : Nat) (w : World) (hp : p ≤ l.length) (hl : l.length ≤ 100000) (hpr : pre (l.drop p) [85, 43] = false) :
    Calls Tryd.prog 24 #[.string ⟨l.toArray⟩, .int .i64 p] w fun e w' => e = .returned (rsv (rsp l p)) ∧ Below w.heap.size w w' := by
  have HSZ := hid (show (⟨l.toArray⟩ : ByteArray).size = l.length by show l.toArray.size = _; simp)
  have HPR := hid hpr
  have HR := hid (rsp_quot hpr)
  clear hpr
  obtain ⟨r, n, b, hqd⟩ : ∃ r n b, qdd l p = (r, n, b) := ⟨_, _, _, rfl⟩
  have HQ := hid (quoted_eq2 l p r n b w hp hl hqd)
  have hn5 : n ≤ 4 := by
    have h := congrArg (fun x => x.2.1) hqd
    dsimp only at h
    rw [← h]
    unfold qdd
    split
    · exact dec_le4 _
    · exact Nat.zero_le _
  rw [hqd] at HR
  clear hqd
  dsimp only at HR
  cases b with
  | false =>
    have HC := hid (show rsp l p = (0, 0, 21, p) by rw [HR.out, if_pos rfl])
    clear HR
    by_cases c9 : p + 1 < l.length
    · obtain ⟨c0, hc0⟩ : ∃ c0, l[p]'(by omega) = c0 := ⟨_, rfl⟩
      by_cases d0 : c0 = 85
      · subst d0
        obtain ⟨c1, hc1⟩ : ∃ c1, l[p + 1] = c1 := ⟨_, rfl⟩
        have d1 : c1 ≠ 43 := fun e => by rw [pre_two c9] at HPR; have := of_decide_eq_false HPR.out; exact this ⟨hc0, hc1.trans e⟩
        have t1 : (p : Int) + 1 < (l.length : Int) := by omega
        have sz0 : p < (⟨l.toArray⟩ : ByteArray).size := by rw [HSZ.out]; omega
        have sz1 : p + 1 < (⟨l.toArray⟩ : ByteArray).size := by rw [HSZ.out]; omega
        have b0 : (⟨l.toArray⟩ : ByteArray)[p]'sz0 = 85 := hc0
        have b1 : (⟨l.toArray⟩ : ByteArray)[p + 1]'sz1 = c1 := hc1
        have t2 : ((c1.toNat : Int) == 43) = false := beq_eq_false_iff_ne.2 (fun e => d1 (UInt8.toNat_inj.1 (by show c1.toNat = 43; omega)))
        clear hc0 hc1 d1
        go_enter Tryd.func24, Tryd.ntmps24
        go_wp2_with fail
        refine HQ.out.mono ?_
        rintro e w1 ⟨rfl, hb⟩
        have HB := hid hb
        clear hb HQ
        go_wp2
        (try simp only [Exit.inBlock, Exit.then])
        refine bodyPost_ret (results_tmp4 rfl _ _ _) rfl ?_
        exact ⟨by rw [HC.out]; rfl, HB.out⟩
      · have t1 : (p : Int) + 1 < (l.length : Int) := by omega
        have sz0 : p < (⟨l.toArray⟩ : ByteArray).size := by rw [HSZ.out]; omega
        have b0 : (⟨l.toArray⟩ : ByteArray)[p]'sz0 = c0 := hc0
        have t2 : ((c0.toNat : Int) == 85) = false := beq_eq_false_iff_ne.2 (fun e => d0 (UInt8.toNat_inj.1 (by show c0.toNat = 85; omega)))
        clear hc0 d0
        go_enter Tryd.func24, Tryd.ntmps24
        go_wp2_with fail
        refine HQ.out.mono ?_
        rintro e w1 ⟨rfl, hb⟩
        have HB := hid hb
        clear hb HQ
        go_wp2
        (try simp only [Exit.inBlock, Exit.then])
        refine bodyPost_ret (results_tmp4 rfl _ _ _) rfl ?_
        exact ⟨by rw [HC.out]; rfl, HB.out⟩
    · have t1 : ¬ (p : Int) + 1 < (l.length : Int) := by omega
      go_enter Tryd.func24, Tryd.ntmps24
      go_wp2_with fail
      refine HQ.out.mono ?_
      rintro e w1 ⟨rfl, hb⟩
      have HB := hid hb
      clear hb HQ
      go_wp2
      (try simp only [Exit.inBlock, Exit.then])
      refine bodyPost_ret (results_tmp4 rfl _ _ _) rfl ?_
      exact ⟨by rw [HC.out]; rfl, HB.out⟩
  | true =>
    by_cases e1 : r = 65533
    · by_cases e2 : n = 1
      · subst e1 e2
        have HC := hid (show rsp l p = (0, 0, 23, p + 1) by rw [HR.out, if_neg (by decide), if_pos ⟨rfl, rfl⟩])
        clear HR
        by_cases c9 : p + 1 < l.length
        · obtain ⟨c0, hc0⟩ : ∃ c0, l[p]'(by omega) = c0 := ⟨_, rfl⟩
          by_cases d0 : c0 = 85
          · subst d0
            obtain ⟨c1, hc1⟩ : ∃ c1, l[p + 1] = c1 := ⟨_, rfl⟩
            have d1 : c1 ≠ 43 := fun e => by rw [pre_two c9] at HPR; have := of_decide_eq_false HPR.out; exact this ⟨hc0, hc1.trans e⟩
            have t1 : (p : Int) + 1 < (l.length : Int) := by omega
            have sz0 : p < (⟨l.toArray⟩ : ByteArray).size := by rw [HSZ.out]; omega
            have sz1 : p + 1 < (⟨l.toArray⟩ : ByteArray).size := by rw [HSZ.out]; omega
            have b0 : (⟨l.toArray⟩ : ByteArray)[p]'sz0 = 85 := hc0
            have b1 : (⟨l.toArray⟩ : ByteArray)[p + 1]'sz1 = c1 := hc1
            have t2 : ((c1.toNat : Int) == 43) = false := beq_eq_false_iff_ne.2 (fun e => d1 (UInt8.toNat_inj.1 (by show c1.toNat = 43; omega)))
            clear hc0 hc1 d1
            go_enter Tryd.func24, Tryd.ntmps24
            go_wp2_with fail
            refine HQ.out.mono ?_
            rintro e w1 ⟨rfl, hb⟩
            have HB := hid hb
            clear hb HQ
            go_wp2
            (try simp only [Exit.inBlock, Exit.then])
            refine bodyPost_ret (results_tmp4 rfl _ _ _) rfl ?_
            exact ⟨by rw [HC.out]; rfl, HB.out⟩
          · have t1 : (p : Int) + 1 < (l.length : Int) := by omega
            have sz0 : p < (⟨l.toArray⟩ : ByteArray).size := by rw [HSZ.out]; omega
            have b0 : (⟨l.toArray⟩ : ByteArray)[p]'sz0 = c0 := hc0
            have t2 : ((c0.toNat : Int) == 85) = false := beq_eq_false_iff_ne.2 (fun e => d0 (UInt8.toNat_inj.1 (by show c0.toNat = 85; omega)))
            clear hc0 d0
            go_enter Tryd.func24, Tryd.ntmps24
            go_wp2_with fail
            refine HQ.out.mono ?_
            rintro e w1 ⟨rfl, hb⟩
            have HB := hid hb
            clear hb HQ
            go_wp2
            (try simp only [Exit.inBlock, Exit.then])
            refine bodyPost_ret (results_tmp4 rfl _ _ _) rfl ?_
            exact ⟨by rw [HC.out]; rfl, HB.out⟩
        · have t1 : ¬ (p : Int) + 1 < (l.length : Int) := by omega
          go_enter Tryd.func24, Tryd.ntmps24
          go_wp2_with fail
          refine HQ.out.mono ?_
          rintro e w1 ⟨rfl, hb⟩
          have HB := hid hb
          clear hb HQ
          go_wp2
          (try simp only [Exit.inBlock, Exit.then])
          refine bodyPost_ret (results_tmp4 rfl _ _ _) rfl ?_
          exact ⟨by rw [HC.out]; rfl, HB.out⟩
      · have HC := hid (show rsp l p = (r, p + n + 2, 0, 0) by rw [HR.out, if_neg (by decide), if_neg (fun h => e2 h.2)])
        have e2' : ((n : Int) == 1) = false := beq_eq_false_iff_ne.2 (by omega)
        have HE := hid e1
        subst e1
        clear HR
        by_cases c9 : p + 1 < l.length
        · obtain ⟨c0, hc0⟩ : ∃ c0, l[p]'(by omega) = c0 := ⟨_, rfl⟩
          by_cases d0 : c0 = 85
          · subst d0
            obtain ⟨c1, hc1⟩ : ∃ c1, l[p + 1] = c1 := ⟨_, rfl⟩
            have d1 : c1 ≠ 43 := fun e => by rw [pre_two c9] at HPR; have := of_decide_eq_false HPR.out; exact this ⟨hc0, hc1.trans e⟩
            have t1 : (p : Int) + 1 < (l.length : Int) := by omega
            have sz0 : p < (⟨l.toArray⟩ : ByteArray).size := by rw [HSZ.out]; omega
            have sz1 : p + 1 < (⟨l.toArray⟩ : ByteArray).size := by rw [HSZ.out]; omega
            have b0 : (⟨l.toArray⟩ : ByteArray)[p]'sz0 = 85 := hc0
            have b1 : (⟨l.toArray⟩ : ByteArray)[p + 1]'sz1 = c1 := hc1
            have t2 : ((c1.toNat : Int) == 43) = false := beq_eq_false_iff_ne.2 (fun e => d1 (UInt8.toNat_inj.1 (by show c1.toNat = 43; omega)))
            clear hc0 hc1 d1
            go_enter Tryd.func24, Tryd.ntmps24
            go_wp2_with fail
            refine HQ.out.mono ?_
            rintro e w1 ⟨rfl, hb⟩
            have HB := hid hb
            clear hb HQ
            go_wp2
            (try simp only [Exit.inBlock, Exit.then])
            refine bodyPost_ret (results_tmp4 rfl _ _ _) rfl ?_
            exact ⟨by rw [HC.out]; rfl, HB.out⟩
          · have t1 : (p : Int) + 1 < (l.length : Int) := by omega
            have sz0 : p < (⟨l.toArray⟩ : ByteArray).size := by rw [HSZ.out]; omega
            have b0 : (⟨l.toArray⟩ : ByteArray)[p]'sz0 = c0 := hc0
            have t2 : ((c0.toNat : Int) == 85) = false := beq_eq_false_iff_ne.2 (fun e => d0 (UInt8.toNat_inj.1 (by show c0.toNat = 85; omega)))
            clear hc0 d0
            go_enter Tryd.func24, Tryd.ntmps24
            go_wp2_with fail
            refine HQ.out.mono ?_
            rintro e w1 ⟨rfl, hb⟩
            have HB := hid hb
            clear hb HQ
            go_wp2
            (try simp only [Exit.inBlock, Exit.then])
            refine bodyPost_ret (results_tmp4 rfl _ _ _) rfl ?_
            exact ⟨by rw [HC.out]; rfl, HB.out⟩
        · have t1 : ¬ (p : Int) + 1 < (l.length : Int) := by omega
          go_enter Tryd.func24, Tryd.ntmps24
          go_wp2_with fail
          refine HQ.out.mono ?_
          rintro e w1 ⟨rfl, hb⟩
          have HB := hid hb
          clear hb HQ
          go_wp2
          (try simp only [Exit.inBlock, Exit.then])
          refine bodyPost_ret (results_tmp4 rfl _ _ _) rfl ?_
          exact ⟨by rw [HC.out]; rfl, HB.out⟩
    · have HC := hid (show rsp l p = (r, p + n + 2, 0, 0) by rw [HR.out, if_neg (by decide), if_neg (fun h => e1 h.1)])
      have e1' : (r == 65533) = false := beq_eq_false_iff_ne.2 e1
      clear HR
      by_cases c9 : p + 1 < l.length
      · obtain ⟨c0, hc0⟩ : ∃ c0, l[p]'(by omega) = c0 := ⟨_, rfl⟩
        by_cases d0 : c0 = 85
        · subst d0
          obtain ⟨c1, hc1⟩ : ∃ c1, l[p + 1] = c1 := ⟨_, rfl⟩
          have d1 : c1 ≠ 43 := fun e => by rw [pre_two c9] at HPR; have := of_decide_eq_false HPR.out; exact this ⟨hc0, hc1.trans e⟩
          have t1 : (p : Int) + 1 < (l.length : Int) := by omega
          have sz0 : p < (⟨l.toArray⟩ : ByteArray).size := by rw [HSZ.out]; omega
          have sz1 : p + 1 < (⟨l.toArray⟩ : ByteArray).size := by rw [HSZ.out]; omega
          have b0 : (⟨l.toArray⟩ : ByteArray)[p]'sz0 = 85 := hc0
          have b1 : (⟨l.toArray⟩ : ByteArray)[p + 1]'sz1 = c1 := hc1
          have t2 : ((c1.toNat : Int) == 43) = false := beq_eq_false_iff_ne.2 (fun e => d1 (UInt8.toNat_inj.1 (by show c1.toNat = 43; omega)))
          clear hc0 hc1 d1
          go_enter Tryd.func24, Tryd.ntmps24
          go_wp2_with fail
          refine HQ.out.mono ?_
          rintro e w1 ⟨rfl, hb⟩
          have HB := hid hb
          clear hb HQ
          go_wp2
          (try simp only [Exit.inBlock, Exit.then])
          refine bodyPost_ret (results_tmp4 rfl _ _ _) rfl ?_
          exact ⟨by rw [HC.out]; rfl, HB.out⟩
        · have t1 : (p : Int) + 1 < (l.length : Int) := by omega
          have sz0 : p < (⟨l.toArray⟩ : ByteArray).size := by rw [HSZ.out]; omega
          have b0 : (⟨l.toArray⟩ : ByteArray)[p]'sz0 = c0 := hc0
          have t2 : ((c0.toNat : Int) == 85) = false := beq_eq_false_iff_ne.2 (fun e => d0 (UInt8.toNat_inj.1 (by show c0.toNat = 85; omega)))
          clear hc0 d0
          go_enter Tryd.func24, Tryd.ntmps24
          go_wp2_with fail
          refine HQ.out.mono ?_
          rintro e w1 ⟨rfl, hb⟩
          have HB := hid hb
          clear hb HQ
          go_wp2
          (try simp only [Exit.inBlock, Exit.then])
          refine bodyPost_ret (results_tmp4 rfl _ _ _) rfl ?_
          exact ⟨by rw [HC.out]; rfl, HB.out⟩
      · have t1 : ¬ (p : Int) + 1 < (l.length : Int) := by omega
        go_enter Tryd.func24, Tryd.ntmps24
        go_wp2_with fail
        refine HQ.out.mono ?_
        rintro e w1 ⟨rfl, hb⟩
        have HB := hid hb
        clear hb HQ
        go_wp2
        (try simp only [Exit.inBlock, Exit.then])
        refine bodyPost_ret (results_tmp4 rfl _ _ _) rfl ?_
        exact ⟨by rw [HC.out]; rfl, HB.out⟩

theorem rspelling_any (l : List UInt8) (p : Nat) (w : World) (hp : p ≤ l.length) (hl : l.length ≤ 100000) :
    Calls Tryd.prog 24 #[.string ⟨l.toArray⟩, .int .i64 p] w fun e w' => e = .returned (rsv (rsp l p)) ∧ Below w.heap.size w w' := by
  cases h : pre (l.drop p) [85, 43] with
  | true =>
    have hlen := pre_len h
    rw [List.length_drop] at hlen
    simp only [List.length_cons, List.length_nil] at hlen
    exact rspell_code l p w (by omega) hl h
  | false => exact rspell_quot l p w hp hl h
end Go.Proofs.YtfahbdlcokoghabDoor
