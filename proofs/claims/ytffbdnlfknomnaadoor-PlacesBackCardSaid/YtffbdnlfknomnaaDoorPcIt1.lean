/- The iterators of runesOf and unitsOf (package places). -/
import Derived.Test.YtffbdnlfknomnaaDoorPcIt0
namespace Go.Proofs.YtffbdnlfknomnaaDoor.Wt
open Go.RowKit Go.Shelf
attribute [local go_sem] Oper.semAt_some

set_option maxHeartbeats 2000000 in
theorem runes_o : PlSeq 59 runesL := fun n Bs l L w hn hL hR hl lp J Jx W hbW hJ hJx hY h0 => by
  have HRW := hid (hR.below hbW)
  have hn1 : 1 ≤ n := by omega
  have hcW := HRW.out.bs.cell
  have HLL := hid hL
  have hsz : (⟨l.toArray⟩ : ByteArray).size = l.length := by show l.toArray.size = _; simp
  have HSZ := hid hsz
  clear hsz hR hbW hL
  refine callsIn_of_wp Tryd.func59 rfl trivial ?_ rfl
  simp only [Tryd.ntmps59, List.size_toArray, List.length_cons, List.length_nil, Nat.reduceAdd, Nat.reduceSub, Array.replicate_succ, Array.replicate_zero, List.push_toArray, List.append_toArray, List.nil_append, List.cons_append]
  gi_wp2
  have hJ0 : J [] (W.iter ⟨l.toArray⟩ 0) := hJ [] W _ none h0 (World.grownBy_alloc W _ none) (fun r e => by cases e)
  have hit0 : (W.iter ⟨l.toArray⟩ 0).heap[W.heap.size]? = some (.stringIter ⟨l.toArray⟩ 0) := World.iter_heap W _ 0
  have HW0 := hid (show WaAt Bs l (W.iter ⟨l.toArray⟩ 0) from HRW.out.below ((Below.refl _ _).alloc (Nat.le_refl _) _))
  clear hcW
  gi_loopw [3] (fun _ wr => ∃ (t : Nat) (pre rest : List (Pn l)), t ≤ l.length ∧ Hid (rest.map Pn.v = (rp l t).map (·.1)) ∧ Hid (L = pre ++ rest) ∧ Hid (wr.heap[W.heap.size]? = some (.stringIter ⟨l.toArray⟩ t)) ∧ Hid (J pre wr) ∧ Hid (WaAt Bs l wr)) (fun _ wr => l.length - wr.iterPos W.heap.size)
  case atStart => exact ⟨0, [], L, by omega, HLL, rfl, hit0, hJ0, HW0⟩
  case round =>
    obtain ⟨t, pre, rest, htl, HC, HP, HI, HJ, HR⟩ := hrel
    clear hJ0 hit0 HW0
    by_cases hlt : t < l.length
    · have hlti : (t : Int) < (l.length : Int) := by omega
      have hnx := wnext_at (P := Tryd.prog) wr W.heap.size ⟨l.toArray⟩ t 0 HI.out (by rw [HSZ.out]; exact hlt)
      rw [decode_place l t hlt] at hnx
      have hC2 := HC.out
      rw [rp_step l t hlt] at hC2
      have hne := drop_ne l t hlt
      have d1 := dec_ge _ hne
      have d2 := dec_le _ hne
      simp only [List.length_drop] at d2
      obtain ⟨nn, hnn⟩ : ∃ nn, nn = (dec (l.drop t)).2 := ⟨_, rfl⟩
      obtain ⟨rr, hrr⟩ : ∃ rr, rr = (dec (l.drop t)).1 := ⟨_, rfl⟩
      rw [← hnn] at hnx hC2 d1 d2
      rw [← hrr] at hnx hC2
      obtain ⟨w1, hw1⟩ : ∃ w1, w1 = wr.putObj W.heap.size (.stringIter ⟨l.toArray⟩ (t + nn)) := ⟨_, rfl⟩
      rw [← hw1] at hnx
      have hin : W.heap.size < wr.heap.size := (Array.getElem?_eq_some_iff.1 HI.out).1
      have HJ1 := hid (show J pre w1 by
        rw [hw1]
        exact hJ pre wr _ (some W.heap.size) HJ.out (grownBy_putObj' wr _ _) (fun r e => by cases e; exact ⟨Nat.le_refl _, _, HI.out, rfl⟩))
      have HI1 := hid (show w1.heap[W.heap.size]? = some (.stringIter ⟨l.toArray⟩ (t + nn)) by rw [hw1]; exact World.putObj_heap_same hin)
      have HR1 := hid (show WaAt Bs l w1 by
        rw [hw1]
        refine HR.out.keeps (by simp) fun k hk => World.putObj_heap_other ?_
        have := HRW.out.lt k hk
        omega)
      have HM := hid (show l.length - wr.iterPos W.heap.size = l.length - t by unfold World.iterPos; rw [HI.out])
      have HC2 := hid hC2
      clear hC2 hne hnn hrr hw1 hin HC HI HJ HR
      have HC3 := hid (show rest.map Pn.v = t :: (rp l (t + nn)).map (·.1) from HC2.out)
      obtain ⟨x, R, rfl⟩ : ∃ x R, rest = x :: R := by
        cases rest with
        | nil => have h1 := HC3.out; cases h1
        | cons x R => exact ⟨x, R, rfl⟩
      have Hx := hid (List.cons.inj (HC3.out)).1
      have HR := hid (List.cons.inj (HC3.out)).2
      have HP2 := hid (show L = (pre ++ [x]) ++ R by rw [HP.out, List.append_assoc]; rfl)
      obtain ⟨fn, tmps, assign, body, hy, hRR⟩ := hY pre x w1 HJ1.out (by rw [HP2.out]; simp)
      dsimp only [encN] at hy
      rw [Hx.out] at hy
      clear hY HC2 HC3
      gi_wp2
      refine hRR.mono ?_
      rintro e W3 ⟨hkf, (⟨rfl, hJ3, hk3⟩ | ⟨rfl, hJx3⟩)⟩
      · have HI3 := hid (hkf.same _ _ (Nat.le_refl _) HI1.out rfl)
        have HR3 := hid (HR1.out.kt hk3)
        have HJ3 := hid hJ3
        clear hJ3 hk3 hkf
        gi_wp2
        go_roundw
        case rel => exact ⟨t + nn, pre ++ [x], R, by omega, HR, HP2, HI3, HJ3, HR3⟩
        case measure =>
          rw [HM.out]
          unfold World.iterPos
          rw [HI3.out]
          simp only []
          omega
      · have HJX := hid hJx3
        clear hJx3
        gi_wp2
        refine bodyPost_ret (results_none rfl _ _ _) rfl ?_
        exact ⟨⟨_, rfl⟩, .inr ⟨pre ++ [x], ⟨R, by rw [HP2.out]⟩, HJX.out⟩⟩
    · have hnx := wnext_stop (P := Tryd.prog) wr W.heap.size ⟨l.toArray⟩ t 0 HI.out (by rw [HSZ.out]; exact hlt)
      have HF := hid (show L = pre by
        have h := HC.out
        rw [rp_end l t hlt] at h
        rw [HP.out, List.map_eq_nil_iff.1 h, List.append_nil])
      gi_wp2
      go_end0
      exact ⟨⟨_, rfl⟩, .inl ⟨_, rfl, by rw [HF.out]; exact HJ.out⟩⟩
set_option maxHeartbeats 2000000 in
theorem units_o : PlSeq 58 unitsL := fun n Bs l L w hn hL hR hl lp J Jx W hbW hJ hJx hY h0 => by
  have HRW := hid (hR.below hbW)
  have hn1 : 1 ≤ n := by omega
  have hcW := HRW.out.bs.cell
  have HLL := hid hL
  have hsz : (⟨l.toArray⟩ : ByteArray).size = l.length := by show l.toArray.size = _; simp
  have HSZ := hid hsz
  clear hsz hR hbW hL
  refine callsIn_of_wp Tryd.func58 rfl trivial ?_ rfl
  simp only [Tryd.ntmps58, List.size_toArray, List.length_cons, List.length_nil, Nat.reduceAdd, Nat.reduceSub, Array.replicate_succ, Array.replicate_zero, List.push_toArray, List.append_toArray, List.nil_append, List.cons_append]
  gi_wp2
  have hJ0 : J [] (W.iter ⟨l.toArray⟩ 0) := hJ [] W _ none h0 (World.grownBy_alloc W _ none) (fun r e => by cases e)
  have hit0 : (W.iter ⟨l.toArray⟩ 0).heap[W.heap.size]? = some (.stringIter ⟨l.toArray⟩ 0) := World.iter_heap W _ 0
  have HW0 := hid (show WaAt Bs l (W.iter ⟨l.toArray⟩ 0) from HRW.out.below ((Below.refl _ _).alloc (Nat.le_refl _) _))
  clear hcW
  gi_loopw [3, 4] (fun _ _ wr => ∃ (t : Nat) (pre rest : List (Pn l)), t ≤ l.length ∧ Hid (rest.map Pn.v = (rp l t).flatMap un) ∧ Hid (L = pre ++ rest) ∧ Hid (wr.heap[W.heap.size]? = some (.stringIter ⟨l.toArray⟩ t)) ∧ Hid (J pre wr) ∧ Hid (WaAt Bs l wr)) (fun _ _ wr => l.length - wr.iterPos W.heap.size)
  case atStart => exact ⟨0, [], L, by omega, HLL, rfl, hit0, hJ0, HW0⟩
  case round =>
    obtain ⟨t, pre, rest, htl, HC, HP, HI, HJ, HR⟩ := hrel
    clear hJ0 hit0 HW0
    by_cases hlt : t < l.length
    · have hlti : (t : Int) < (l.length : Int) := by omega
      have hnx := wnext_at (P := Tryd.prog) wr W.heap.size ⟨l.toArray⟩ t 0 HI.out (by rw [HSZ.out]; exact hlt)
      rw [decode_place l t hlt] at hnx
      have hC2 := HC.out
      rw [rp_step l t hlt] at hC2
      have hne := drop_ne l t hlt
      have d1 := dec_ge _ hne
      have d2 := dec_le _ hne
      simp only [List.length_drop] at d2
      obtain ⟨nn, hnn⟩ : ∃ nn, nn = (dec (l.drop t)).2 := ⟨_, rfl⟩
      obtain ⟨rr, hrr⟩ : ∃ rr, rr = (dec (l.drop t)).1 := ⟨_, rfl⟩
      rw [← hnn] at hnx hC2 d1 d2
      rw [← hrr] at hnx hC2
      obtain ⟨w1, hw1⟩ : ∃ w1, w1 = wr.putObj W.heap.size (.stringIter ⟨l.toArray⟩ (t + nn)) := ⟨_, rfl⟩
      rw [← hw1] at hnx
      have hin : W.heap.size < wr.heap.size := (Array.getElem?_eq_some_iff.1 HI.out).1
      have HJ1 := hid (show J pre w1 by
        rw [hw1]
        exact hJ pre wr _ (some W.heap.size) HJ.out (grownBy_putObj' wr _ _) (fun r e => by cases e; exact ⟨Nat.le_refl _, _, HI.out, rfl⟩))
      have HI1 := hid (show w1.heap[W.heap.size]? = some (.stringIter ⟨l.toArray⟩ (t + nn)) by rw [hw1]; exact World.putObj_heap_same hin)
      have HR1 := hid (show WaAt Bs l w1 by
        rw [hw1]
        refine HR.out.keeps (by simp) fun k hk => World.putObj_heap_other ?_
        have := HRW.out.lt k hk
        omega)
      have HM := hid (show l.length - wr.iterPos W.heap.size = l.length - t by unfold World.iterPos; rw [HI.out])
      have HC2 := hid hC2
      clear hC2 hne hnn hrr hw1 hin HC HI HJ HR
      by_cases hwd : 65535 < rr
      · have hwi : (65535 : Int) < (rr : Int) := by omega
        have HC3 := hid (show rest.map Pn.v = t :: (t + 1) :: (rp l (t + nn)).flatMap un by rw [HC2.out, List.flatMap_cons]; unfold un; rw [if_pos hwd]; rfl)
        obtain ⟨x, R, rfl⟩ : ∃ x R, rest = x :: R := by
          cases rest with
          | nil => have h1 := HC3.out; cases h1
          | cons x R => exact ⟨x, R, rfl⟩
        have Hx := hid (List.cons.inj (HC3.out)).1
        have HR := hid (List.cons.inj (HC3.out)).2
        obtain ⟨z, S, rfl⟩ : ∃ z S, R = z :: S := by
          cases R with
          | nil => have h1 := HR.out; cases h1
          | cons x R => exact ⟨x, R, rfl⟩
        have Hz := hid (List.cons.inj (HR.out)).1
        have HS := hid (List.cons.inj (HR.out)).2
        have HP2 := hid (show L = (pre ++ [x]) ++ z :: S by rw [HP.out, List.append_assoc]; rfl)
        have HP3 := hid (show L = (pre ++ [x] ++ [z]) ++ S by rw [HP2.out, List.append_assoc (pre ++ [x])]; rfl)
        obtain ⟨fn, tmps, assign, body, hy, hRR⟩ := hY pre x w1 HJ1.out (by rw [HP2.out]; simp)
        dsimp only [encN] at hy
        rw [Hx.out] at hy
        clear HC2 HC3 hwd
        gi_wp2
        refine hRR.mono ?_
        rintro e W3 ⟨hkf, (⟨rfl, hJ3, hk3⟩ | ⟨rfl, hJx3⟩)⟩
        · have HI3 := hid (hkf.same _ _ (Nat.le_refl _) HI1.out rfl)
          have HR3 := hid (HR1.out.kt hk3)
          have HJ3 := hid hJ3
          clear hJ3 hk3 hkf hy hRR hnx
          obtain ⟨fn2, tmps2, assign2, body2, hy2, hRR2⟩ := hY (pre ++ [x]) z W3 HJ3.out (by rw [HP3.out]; simp)
          dsimp only [encN] at hy2
          rw [Hz.out] at hy2
          simp only [Int.natCast_add, Int.cast_ofNat_Int] at hy2
          clear hY
          gi_wp2
          refine hRR2.mono ?_
          rintro e W4 ⟨hkf, (⟨rfl, hJ4, hk4⟩ | ⟨rfl, hJx4⟩)⟩
          · have HI4 := hid (hkf.same _ _ (Nat.le_refl _) HI3.out rfl)
            have HR4 := hid (HR3.out.kt hk4)
            have HJ4 := hid hJ4
            clear hJ4 hk4 hkf
            gi_wp2
            go_roundw
            case rel => exact ⟨t + nn, pre ++ [x] ++ [z], S, by omega, HS, HP3, HI4, HJ4, HR4⟩
            case measure =>
              rw [HM.out]
              unfold World.iterPos
              rw [HI4.out]
              simp only []
              omega
          · have HJX := hid hJx4
            clear hJx4
            gi_wp2
            refine bodyPost_ret (results_none rfl _ _ _) rfl ?_
            exact ⟨⟨_, rfl⟩, .inr ⟨pre ++ [x] ++ [z], ⟨S, by rw [HP3.out]⟩, HJX.out⟩⟩
        · have HJX := hid hJx3
          clear hJx3
          gi_wp2_with (refine wpListIn_skip (by rfl) (by rfl) ?_)
          refine bodyPost_ret (results_none rfl _ _ _) rfl ?_
          exact ⟨⟨_, rfl⟩, .inr ⟨pre ++ [x], ⟨z :: S, by rw [HP2.out]⟩, HJX.out⟩⟩
      · have hwi : ¬ (65535 : Int) < (rr : Int) := by omega
        have HC3 := hid (show rest.map Pn.v = t :: (rp l (t + nn)).flatMap un by rw [HC2.out, List.flatMap_cons]; unfold un; rw [if_neg hwd]; rfl)
        obtain ⟨x, R, rfl⟩ : ∃ x R, rest = x :: R := by
          cases rest with
          | nil => have h1 := HC3.out; cases h1
          | cons x R => exact ⟨x, R, rfl⟩
        have Hx := hid (List.cons.inj (HC3.out)).1
        have HR := hid (List.cons.inj (HC3.out)).2
        have HP2 := hid (show L = (pre ++ [x]) ++ R by rw [HP.out, List.append_assoc]; rfl)
        obtain ⟨fn, tmps, assign, body, hy, hRR⟩ := hY pre x w1 HJ1.out (by rw [HP2.out]; simp)
        dsimp only [encN] at hy
        rw [Hx.out] at hy
        clear hY HC2 HC3 hwd
        gi_wp2
        refine hRR.mono ?_
        rintro e W3 ⟨hkf, (⟨rfl, hJ3, hk3⟩ | ⟨rfl, hJx3⟩)⟩
        · have HI3 := hid (hkf.same _ _ (Nat.le_refl _) HI1.out rfl)
          have HR3 := hid (HR1.out.kt hk3)
          have HJ3 := hid hJ3
          clear hJ3 hk3 hkf
          gi_wp2_with fail
          refine ⟨fun _ h => (by cases h), ?_⟩
          gi_wp2
          go_roundw
          case rel => exact ⟨t + nn, pre ++ [x], R, by omega, HR, HP2, HI3, HJ3, HR3⟩
          case measure =>
            rw [HM.out]
            unfold World.iterPos
            rw [HI3.out]
            simp only []
            omega
        · have HJX := hid hJx3
          clear hJx3
          gi_wp2_with (refine wpListIn_skip (by rfl) (by rfl) ?_)
          refine bodyPost_ret (results_none rfl _ _ _) rfl ?_
          exact ⟨⟨_, rfl⟩, .inr ⟨pre ++ [x], ⟨R, by rw [HP2.out]⟩, HJX.out⟩⟩
    · have hnx := wnext_stop (P := Tryd.prog) wr W.heap.size ⟨l.toArray⟩ t 0 HI.out (by rw [HSZ.out]; exact hlt)
      have HF := hid (show L = pre by
        have h := HC.out
        rw [rp_end l t hlt] at h
        rw [HP.out, List.map_eq_nil_iff.1 h, List.append_nil])
      gi_wp2
      go_end0
      exact ⟨⟨_, rfl⟩, .inl ⟨_, rfl, by rw [HF.out]; exact HJ.out⟩⟩
end Go.Proofs.YtffbdnlfknomnaaDoor.Wt
