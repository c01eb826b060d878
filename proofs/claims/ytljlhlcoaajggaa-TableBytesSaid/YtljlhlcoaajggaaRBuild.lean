/- The contract of Build (package kerfref03). -/
import Derived.Test.YtljlhlcoaajggaaRNorm
namespace Go.Proofs.Ytljlhlcoaajggaa
open Go.RowKit

/-- The document's table of these ranges lies at P. -/
def RtAt (B P : Nat) (L : List Tr) (r : Nat) (w : World) : Prop := ∃ v, w.heap[P]? = some (.cells #[v, .int .i64 (r : Int)] 74 (0, 0)) ∧ w.ownsRow B 36 3 v L.length (rks L)
theorem flt_go : ∀ (a b : List Rk) (D : List Tr) (j : Nat), flt D j a = none → flt D j (a ++ b) = flt (srt D a) (j + a.length) b
  | [], _, _, _, _ => rfl
  | x :: a, b, D, j, h => by
    have h' : (if okR x = true then (if D.any (fun y => mt y (toT x)) = true then some (8, j) else flt (insR (toT x) D) (j + 1) a) else some (30, j)) = none := h
    split at h'
    · rename_i hx
      split at h'
      · cases h'
      · rename_i ha
        have ih := flt_go a b (insR (toT x) D) (j + 1) h'
        show (if okR x = true then (if D.any (fun y => mt y (toT x)) = true then some (8, j) else flt (insR (toT x) D) (j + 1) (a ++ b)) else some (30, j)) = _
        rw [if_pos hx, if_neg ha, ih, List.length_cons, show j + 1 + a.length = j + (a.length + 1) by omega]
        rfl
    · cases h'
theorem flt_at (l : List Rk) (i : Nat) (hi : i < l.length) (h : flt [] 0 (l.take i) = none) : flt [] 0 l = flt (srt [] (l.take i)) i (l[i] :: l.drop (i + 1)) := by
  have e : l = l.take i ++ l.drop i := (List.take_append_drop i l).symm
  conv => lhs; rw [e]
  rw [flt_go _ _ _ _ h, List.length_take, Nat.zero_add, Nat.min_eq_left (by omega), List.drop_eq_getElem_cons hi]
theorem any_take (l : List Rk) (i : Nat) (t : Tr) : (srt [] (l.take i)).any (fun x => mt x t) = (l.take i).any (fun x => mt (toT x) t) := by
  rw [(srt_perm (l.take i) []).any_eq, List.nil_append, List.any_map]
  rfl
theorem flt_next (l : List Rk) (i : Nat) (hi : i < l.length) (h : flt [] 0 (l.take i) = none) (hok : okR l[i] = true) (hn : ∀ j x, j < i → l[j]? = some x → mt (toT x) (toT l[i]) = false) : flt [] 0 (l.take (i + 1)) = none := by
  rw [List.take_succ_eq_append_getElem hi, flt_go _ _ _ _ h]
  show (if okR l[i] = true then (if (srt [] (l.take i)).any (fun y => mt y (toT l[i])) = true then _ else none) else _) = none
  have ha : (srt [] (l.take i)).any (fun y => mt y (toT l[i])) = false := by
    rw [any_take, List.any_eq_false]
    intro x hx
    obtain ⟨j, hj⟩ := List.getElem?_of_mem hx
    rw [List.getElem?_take] at hj
    split at hj
    · rename_i hji
      rw [hn j x hji hj]; decide
    · cases hj
  rw [if_pos hok, ha]
  rfl
theorem flt_bad (l : List Rk) (i : Nat) (hi : i < l.length) (h : flt [] 0 (l.take i) = none) (hok : ¬ okR l[i] = true) : flt [] 0 l = some (30, i) := by
  rw [flt_at l i hi h]
  show (if okR l[i] = true then _ else some (30, i)) = _
  rw [if_neg hok]
theorem flt_hit (l : List Rk) (i k : Nat) (hi : i < l.length) (h : flt [] 0 (l.take i) = none) (hok : okR l[i] = true) (hk : k < i) (x : Rk) (hx : l[k]? = some x) (hm : mt (toT x) (toT l[i]) = true) : flt [] 0 l = some (8, i) := by
  rw [flt_at l i hi h]
  show (if okR l[i] = true then (if (srt [] (l.take i)).any (fun y => mt y (toT l[i])) = true then some (8, i) else _) else _) = _
  have ha : (srt [] (l.take i)).any (fun y => mt y (toT l[i])) = true := by
    rw [any_take, List.any_eq_true]
    exact ⟨x, List.mem_of_getElem? (i := k) (by rw [List.getElem?_take, if_pos hk]; exact hx), hm⟩
  rw [if_pos hok, if_pos ha]
theorem mt_ok {x g : Rk} (hx : okR x = true) (hg : okR g = true) : mt (toT x) (toT g) = (decide (x.1 ≤ g.2.1) && decide (g.1 ≤ x.2.1)) := by
  have e1 := rkT_toT hx
  have e2 := rkT_toT hg
  unfold mt
  rw [e1, e2, Bool.eq_iff_iff]
  unfold apt
  simp only [beq_iff_eq, Bool.and_eq_true, decide_eq_true_eq]
  constructor
  · intro h
    split at h
    · omega
    · split at h
      · omega
      · omega
  · rintro ⟨h1, h2⟩
    rw [if_neg (by omega), if_neg (by omega)]

set_option maxHeartbeats 6000000 in
set_option maxRecDepth 100000 in
theorem rbuild_any (ao : Option Addr) (ac : Nat) (l : List Rk) (r : Int) (w : World) (ha : RdK w ao l) (hl : l.length ≤ 1000000000) :
    Calls Try.prog 13 #[.slice ao l.length ac, .int .i64 r] w fun e w' => Below w.heap.size w w' ∧
      ((∃ c k, bo l r = some (c, k) ∧ e = .returned (.tuple #[.pointer none, .int .i64 c, .int .i64 (k : Int)])) ∨
       (bo l r = none ∧ ∃ P, e = .returned (.tuple #[.pointer (some ⟨P, 0, none⟩), .int .i64 0, .int .i64 0]) ∧ w.heap.size ≤ P ∧ RtAt w.heap.size P (nrA r.toNat [] (srt [] l)) r.toNat w')) := by
  have HA := hid ha
  obtain ⟨n, hn⟩ : ∃ n, n = l.length := ⟨_, rfl⟩
  rw [← hn] at hl ⊢
  have HN := hid hn
  clear ha
  cases hr : icl r with
  | false =>
    have HZ := hid (show bo l r = some (30, 0) by unfold bo; rw [hr]; rfl)
    clear hn
    go_enter Try.func13, Try.ntmps13
    go_wp2_with (go_at_call 40; refine (rclass_any r _).mono ?_; rintro e w2 ⟨rfl, hw2⟩; obtain rfl := hw2.symm; rw [hr])
    go_ret3
    exact ⟨Below.refl _ _, .inl ⟨30, 0, HZ.out, rfl⟩⟩
  | true =>
    by_cases hm : 4096 < n
    · have HZ := hid (show bo l r = some (6, 0) by unfold bo; rw [hr, if_pos rfl, if_pos (by rw [← hn]; exact hm)])
      have hm' : (4096 : Int) < (n : Int) := by omega
      clear hn
      go_enter Try.func13, Try.ntmps13
      go_wp2_with (go_at_call 40; refine (rclass_any r _).mono ?_; rintro e w2 ⟨rfl, hw2⟩; obtain rfl := hw2.symm; rw [hr])
      go_ret3
      exact ⟨Below.refl _ _, .inl ⟨6, 0, HZ.out, rfl⟩⟩
    · have HZ := hid (show bo l r = flt [] 0 l by unfold bo; rw [hr, if_pos rfl, if_neg (by rw [← hn]; exact hm)])
      have hm' : ¬ (4096 : Int) < (n : Int) := by omega
      have HNIL := hid (show flt [] 0 (l.take 0) = none from rfl)
      clear hn
      go_enter Try.func13, Try.ntmps13
      go_wp2_with (go_at_call 40; refine (rclass_any r _).mono ?_; rintro e w2 ⟨rfl, hw2⟩; obtain rfl := hw2.symm; rw [hr])
      go_loopw [7] (fun x wr => ∃ (i : Nat), x = .int .i64 (i : Int) ∧ i ≤ n ∧ Hid (flt [] 0 (l.take i) = none) ∧ Hid (Below w.heap.size w wr)) (fun x _ => n - (intOf x).toNat)
      case atStart => exact ⟨0, rfl, by omega, HNIL, Below.refl _ _⟩
      case round =>
        obtain ⟨i, rfl, hi, HFT, HB⟩ := hrel
        by_cases hlt : i < n
        · have hiL : i < l.length := by have h5 := HN.out; omega
          have HRD := hid (show ∀ W, Below w.heap.size w W → RdK W ao l from fun W hW => HA.out.below hW)
          obtain ⟨a, rfl, hab, a0, a1, a2⟩ := HRD.out wr HB.out i l[i] (List.getElem?_eq_getElem hiL)
          have i3 : (i : Int) < (n : Int) := by omega
          have i0 : (0 : Int) ≤ (i : Int) := by omega
          have HRI := hid (right_any l[i] wr)
          have HBAD := hid (fun h => flt_bad l i hiL HFT.out h)
          have HHIT := hid (fun h k x hk hx hm => flt_hit l i k hiL HFT.out h hk x hx hm)
          have HNXT := hid (fun h hn => flt_next l i hiL HFT.out h hn)
          have hwz := HB.out.size
          have HMO := hid (fun (h : okR l[i] = true) (x : Rk) (hx : okR x = true) => mt_ok hx h)
          obtain ⟨g, hg⟩ : ∃ g, g = l[i] := ⟨_, rfl⟩
          rw [← hg] at a0 a1 a2 HRI HBAD HHIT HNXT HMO
          have HGE := hid (show l[i]? = some g by rw [hg]; exact List.getElem?_eq_getElem hiL)
          obtain ⟨g0, g1, g2⟩ := g
          unfold rkv at HRI
          dsimp only at a0 a1 a2 HRI
          clear hg
          by_cases hok : okR (g0, g1, g2) = true
          · rw [hok] at HRI
            have HNX2 := hid (HNXT.out hok)
            have HHI2 := hid (HHIT.out hok)
            have HMO2 := hid (HMO.out hok)
            clear hok
            go_wp2_with fail
            refine HRI.out.mono ?_
            rintro e w1 ⟨rfl, b1⟩
            have HB1 := hid (HB.out.trans (b1.mono hwz))
            clear b1 HRI a0 a1 a2
            go_wp2
            have HN0 := hid (show ∀ j x, j < 0 → l[j]? = some x → mt (toT x) (toT (g0, g1, g2)) = false from fun j x hj => absurd hj (Nat.not_lt_zero _))
            have HOKS := hid ((flt_fin _).1 HFT.out).1
            go_loopw [8] (fun x wk => ∃ (k : Nat), x = .int .i64 (k : Int) ∧ k ≤ i ∧ Hid (∀ j x, j < k → l[j]? = some x → mt (toT x) (toT (g0, g1, g2)) = false) ∧ Hid (Below w.heap.size w wk)) (fun x _ => i - (intOf x).toNat)
            case atStart => exact ⟨0, rfl, by omega, HN0, HB1⟩
            case round =>
              obtain ⟨k, rfl, hki, HNE, HBK⟩ := hrel
              by_cases hkl : k < i
              · have hkL : k < l.length := by omega
                obtain ⟨a', ea, _, x0, x1, _⟩ := HRD.out wr HBK.out k l[k] (List.getElem?_eq_getElem hkL)
                cases ea
                obtain ⟨a', ea, _, y0, y1, _⟩ := HRD.out wr HBK.out i (g0, g1, g2) HGE.out
                cases ea
                have hxok : okR l[k] = true := HOKS.out l[k] (List.mem_of_getElem? (i := k) (by rw [List.getElem?_take, if_pos hkl]; exact List.getElem?_eq_getElem hkL))
                have hmo := HMO2.out l[k] hxok
                have HXE := hid (List.getElem?_eq_getElem hkL)
                have HHX := hid (fun (hm : mt (toT (l[k]'hkL)) (toT (g0, g1, g2)) = true) => HHI2.out k (l[k]'hkL) hkl (List.getElem?_eq_getElem hkL) hm)
                obtain ⟨x, hx⟩ : ∃ x, x = l[k] := ⟨_, rfl⟩
                rw [← hx] at x0 x1 hmo HXE HHX
                obtain ⟨p0, p1, p2⟩ := x
                dsimp only at x0 x1 y0 y1 hmo
                have k3 : (k : Int) < (n : Int) := by omega
                have k0 : (0 : Int) ≤ (k : Int) := by omega
                have k4 : (k : Int) < (i : Int) := by omega
                clear hx hxok
                by_cases q0 : p0 ≤ g1
                · by_cases q1 : g0 ≤ p1
                  · have HHZ := hid (HHX.out (by rw [hmo, decide_eq_true q0, decide_eq_true q1]; rfl))
                    clear hmo
                    go_wp2_with fail
                    go_quiet (fail)
                    have HBQ := hid (HBK.out.trans (below_drewN w.heap.size wr nq))
                    obtain ⟨W, hW⟩ : ∃ W, W = wr.drewN nq := ⟨_, rfl⟩
                    rw [← hW] at HBQ ⊢
                    clear hW x0 x1 y0 y1
                    go_wp2
                    go_ret3
                    exact ⟨HBQ.out, .inl ⟨8, i, HZ.out.trans HHZ.out, rfl⟩⟩
                  · have HMF := hid (show mt (toT (p0, p1, p2)) (toT (g0, g1, g2)) = false by rw [hmo, decide_eq_false q1, Bool.and_false])
                    clear hmo
                    have HNE2 := hid (show ∀ j x, j < k + 1 → l[j]? = some x → mt (toT x) (toT (g0, g1, g2)) = false from fun j x hj hx => by
                      by_cases hjk : j = k
                      · subst hjk
                        rw [HXE.out] at hx
                        cases hx
                        exact HMF.out
                      · exact HNE.out j x (by omega) hx)
                    go_wp2_with fail
                    go_quiet (fail)
                    have HBQ := hid (HBK.out.trans (below_drewN w.heap.size wr nq))
                    obtain ⟨W, hW⟩ : ∃ W, W = wr.drewN nq := ⟨_, rfl⟩
                    rw [← hW] at HBQ ⊢
                    clear hW x0 x1 y0 y1
                    go_wp2
                    go_roundw
                    case rel => exact ⟨k + 1, by go_num, by omega, HNE2, HBQ⟩
                    case measure => simp [intOf]; omega
                · have HMF := hid (show mt (toT (p0, p1, p2)) (toT (g0, g1, g2)) = false by rw [hmo, decide_eq_false q0, Bool.false_and])
                  clear hmo
                  have q0d : decide (p0 ≤ g1) = false := decide_eq_false q0
                  have q0l : g1 < p0 := by omega
                  have HNE2 := hid (show ∀ j x, j < k + 1 → l[j]? = some x → mt (toT x) (toT (g0, g1, g2)) = false from fun j x hj hx => by
                    by_cases hjk : j = k
                    · subst hjk
                      rw [HXE.out] at hx
                      cases hx
                      exact HMF.out
                    · exact HNE.out j x (by omega) hx)
                  go_wp2_with fail
                  go_quiet (fail)
                  have HBQ := hid (HBK.out.trans (below_drewN w.heap.size wr nq))
                  obtain ⟨W, hW⟩ : ∃ W, W = wr.drewN nq := ⟨_, rfl⟩
                  rw [← hW] at HBQ ⊢
                  clear hW x0 x1 y0 y1
                  go_wp2
                  go_roundw
                  case rel => exact ⟨k + 1, by go_num, by omega, HNE2, HBQ⟩
                  case measure => simp [intOf]; omega
              · have k4 : ¬ (k : Int) < (i : Int) := by omega
                have hke : k = i := by omega
                have HFN := hid (HNX2.out (fun j x hj hx => HNE.out j x (by omega) hx))
                clear hke
                go_wp2
                go_roundw
                case rel => exact ⟨i + 1, by go_num, by omega, HFN, HBK⟩
                case measure => simp [intOf]; omega
          · have hok' : okR (g0, g1, g2) = false := by simpa using hok
            rw [hok'] at HRI
            have HBD := hid (HBAD.out hok)
            clear hok hok'
            go_wp2_with fail
            refine HRI.out.mono ?_
            rintro e w1 ⟨rfl, b1⟩
            have HB1 := hid (HB.out.trans (b1.mono hwz))
            clear b1 HRI
            go_wp2
            go_ret3
            exact ⟨HB1.out, .inl ⟨30, i, HZ.out.trans HBD.out, rfl⟩⟩
        · have i3 : ¬ (i : Int) < (n : Int) := by omega
          have hfl : flt [] 0 l = none := by
            have h5 := HFT.out
            rw [List.take_of_length_le (by have h6 := HN.out; omega)] at h5
            exact h5
          obtain ⟨r0, hr0⟩ : ∃ r0 : Nat, r = (r0 : Int) := ⟨r.toNat, by unfold icl at hr; have := of_decide_eq_true hr; omega⟩
          subst hr0
          have hr1 : r0 < 256 := by unfold icl at hr; have := of_decide_eq_true hr; omega
          have hrt : ((r0 : Int)).toNat = r0 := by omega
          have hwz := HB.out.size
          have HSO := hid (sorted_any ao ac l wr (HA.out.below HB.out) (by have h5 := HN.out; omega) hfl)
          rw [← HN.out] at HSO
          have HRS := hid (srt_ris l [] 0 trivial hfl)
          have HSL := hid (show (srt [] l).length = n by rw [srt_len, ← HN.out])
          have HFL := hid hfl
          clear hfl
          go_wp2_with fail
          refine HSO.out.mono ?_
          rintro e w1 ⟨v1, rfl, o1, b1⟩
          obtain ⟨yo, yc, rfl⟩ := own_form o1
          have HB1 := hid (HB.out.trans (b1.mono hwz))
          have HNO := hid (normal_any yo yc (srt [] l) r0 w1 (rd_own o1) (by have h5 := HSL.out; omega) hr1 HRS.out)
          rw [HSL.out] at HNO
          clear o1 b1 HSO
          go_wp2_with fail
          refine HNO.out.mono ?_
          rintro e w2 ⟨v2, rfl, o2, b2⟩
          obtain ⟨zo, zc, rfl⟩ := own_form o2
          have HB2 := hid (HB1.out.trans (b2.mono HB1.out.size))
          have hw12 : w.heap.size ≤ w1.heap.size := HB1.out.size
          have HO2 := hid (own_mono o2 hw12)
          obtain ⟨ml, hml⟩ : ∃ ml, ml = (nrA r0 [] (srt [] l)).length := ⟨_, rfl⟩
          rw [← hml] at HO2 ⊢
          have HML := hid hml
          have hw2 : w.heap.size ≤ w2.heap.size := HB2.out.size
          have HB3 := hid (HB2.out.alloc hw2 (.cells #[.slice zo ml zc, .int .i64 (r0 : Int)] 74))
          have HRT := hid (show RtAt w.heap.size w2.heap.size (nrA r0 [] (srt [] l)) r0 (w2.alloc (.cells #[.slice zo ml zc, .int .i64 (r0 : Int)] 74)) from ⟨_, heap_alloc_new w2 _, by rw [← HML.out]; exact HO2.out.alloc _⟩)
          clear o2 b2 HNO hml
          go_wp2
          go_ret3
          exact ⟨HB3.out, .inr ⟨HZ.out.trans HFL.out, _, rfl, hw2, by rw [hrt]; exact HRT.out⟩⟩
end Go.Proofs.Ytljlhlcoaajggaa
