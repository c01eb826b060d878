/- The contracts of Search (package sort) at none or one, and of below and place (package places) at short texts. -/
import Derived.Test.YtffbdnlfknomnaaDoorPcRch
namespace Go.Proofs.YtffbdnlfknomnaaDoor.Wt
open Go.RowKit Go.Shelf

theorem Tryd.callS1 : ∀ args w, (callFunc 68 args).run Tryd.prog w = .ok (.enter 68 args) w := enters_of Tryd.func68 (by kernel_rfl) rfl
theorem Tryd.callS2 : ∀ args w, (callFunc 70 args).run Tryd.prog w = .ok (.enter 70 args) w := enters_of Tryd.func70 (by kernel_rfl) rfl
theorem cell_lt {w : World} {g i : Nat} {v : Value} (h : w.cell? ⟨g, i, none⟩ = some v) : g < w.heap.size := by
  obtain ⟨o, ho, _⟩ := not_walk_of_cell h
  exact (Array.getElem?_eq_some_iff.1 ho).1
theorem spot_f0 (a b : Int) (w : World) : (Instr.field 104 (.agg #[.int .i64 a, .int .i64 b]) 0).run Tryd.prog w = .ok (.int .i64 a) w := by kernel_rfl
theorem spot_f1 (a b : Int) (w : World) : (Instr.field 104 (.agg #[.int .i64 a, .int .i64 b]) 1).run Tryd.prog w = .ok (.int .i64 b) w := by kernel_rfl
attribute [local go_sem] spot_f0 spot_f1
def sv (v : Bool) : Int := if v = true then 0 else 1
set_option maxHeartbeats 1000000 in
theorem below1_any (l : List UInt8) (m g c : Nat) (lo z : Int) (y1 : Nat) (B A : Nat) (w : World) (hB : Cb w B #[.string ⟨l.toArray⟩, .func (.func m) #[] #[], .int .i64 lo, .slice (some ⟨g, 0, none⟩) 1 c] 75) (hA : Cb w A #[.int .i64 z] 3)
    (h1 : w.cell? ⟨g, 1, none⟩ = some (.int .i64 y1)) :
    Calls Tryd.prog 68 #[.int .i64 0, .pointer (some ⟨B, 0, none⟩), .pointer (some ⟨A, 0, none⟩)] w fun e w' => e = .returned (.bool (decide (z ≤ (y1 : Int)))) ∧ Below w.heap.size w w' := by
  have c3 := hB.cell 3
  have a0 := hA.cell 0
  simp only [List.getElem?_toArray, List.getElem?_cons_zero, List.getElem?_cons_succ] at c3 a0
  clear hB hA
  go_enter Tryd.func68, Tryd.ntmps68
  go_wp2_with fail
  go_quiet (fail)
  go_wp2
  go_ret
  exact ⟨rfl, below_drN (Below.refl _ _) _⟩
set_option maxHeartbeats 1000000 in
theorem place1_any (l : List UInt8) (m g c : Nat) (lo z : Int) (y0 : Nat) (B A : Nat) (w : World) (hB : Cb w B #[.string ⟨l.toArray⟩, .func (.func m) #[] #[], .int .i64 lo, .slice (some ⟨g, 0, none⟩) 1 c] 75) (hA : Cb w A #[.int .i64 z] 3)
    (h0 : w.cell? ⟨g, 0, none⟩ = some (.int .i64 y0)) :
    Calls Tryd.prog 70 #[.int .i64 0, .pointer (some ⟨B, 0, none⟩), .pointer (some ⟨A, 0, none⟩)] w fun e w' => e = .returned (.bool (decide (z < (y0 : Int)))) ∧ Below w.heap.size w w' := by
  have c3 := hB.cell 3
  have a0 := hA.cell 0
  simp only [List.getElem?_toArray, List.getElem?_cons_zero, List.getElem?_cons_succ] at c3 a0
  clear hB hA
  go_enter Tryd.func70, Tryd.ntmps70
  go_wp2_with fail
  go_quiet (fail)
  go_wp2
  go_ret
  exact ⟨rfl, below_drN (Below.refl _ _) _⟩
set_option maxHeartbeats 1000000 in
theorem search0_any (f : Value) (w : World) : Calls Tryd.prog 67 #[.int .i64 0, f] w fun e w' => e = .returned (.int .i64 0) ∧ w' = w := by
  go_enter Tryd.func67, Tryd.ntmps67
  go_wp2
  go_loopw [5, 6] (fun a b wr => a = .int .i64 0 ∧ b = .int .i64 0 ∧ wr = w) (fun _ _ _ => 0)
  case atStart => exact ⟨rfl, rfl, rfl⟩
  case round =>
    obtain ⟨rfl, rfl, rfl⟩ := hrel
    go_wp2
    go_ret
    exact ⟨rfl, rfl⟩
set_option maxHeartbeats 1000000 in
theorem search1_any (f B A : Nat) (v : Bool) (w : World) (ef : ∀ args w, (callFunc f args).run Tryd.prog w = .ok (.enter f args) w) (hf : Calls Tryd.prog f #[.int .i64 0, .pointer (some ⟨B, 0, none⟩), .pointer (some ⟨A, 0, none⟩)] w fun e w' => e = .returned (.bool v) ∧ Below w.heap.size w w') :
    Calls Tryd.prog 67 #[.int .i64 1, .func (.func f) #[] #[.pointer (some ⟨B, 0, none⟩), .pointer (some ⟨A, 0, none⟩)]] w fun e w' => e = .returned (.int .i64 (sv v)) ∧ Below w.heap.size w w' := by
  have HF := hid hf
  clear hf
  go_enter Tryd.func67, Tryd.ntmps67
  go_wp2
  go_loopw [5, 6] (fun a b wr => (a = .int .i64 0 ∧ b = .int .i64 1 ∧ wr = w) ∨ (∃ z : Int, a = .int .i64 z ∧ b = .int .i64 z ∧ Hid (z = sv v) ∧ 0 ≤ z ∧ z ≤ 1 ∧ Hid (Below w.heap.size w wr))) (fun a b _ => (intOf b - intOf a).toNat)
  case atStart => exact .inl ⟨rfl, rfl, rfl⟩
  case round =>
    rcases hrel with ⟨rfl, rfl, rfl⟩ | ⟨z, rfl, rfl, HZ, hz0, hz1, HB⟩
    · go_wp2_with fail
      refine HF.out.mono ?_
      rintro e w1 ⟨rfl, be⟩
      have HB := hid be
      clear be
      cases v with
      | true =>
        go_wp2
        go_roundw
        case rel => exact .inr ⟨0, rfl, rfl, rfl, by omega, by omega, HB⟩
        case measure => simp [intOf]
      | false =>
        go_wp2
        go_roundw
        case rel => exact .inr ⟨1, rfl, rfl, rfl, by omega, by omega, HB⟩
        case measure => simp [intOf]
    · have hzz : ¬ z < z := by omega
      go_wp2
      go_ret
      exact ⟨by rw [← HZ.out]; rfl, HB.out⟩
set_option maxHeartbeats 2000000 in
theorem below_any (m g : Nat) (E : List UInt8 → List Nat) (C : Cnt m g E) (l : List UInt8) (lw : Nat) (kv : Value) (z : Int) (w : World) (ht : TbW w) (hl : l.length ≤ 100) (hk : Kpd w lw kv (kpt l 0 (E l))) :
    Calls Tryd.prog 43 #[.agg #[.string ⟨l.toArray⟩, .func (.func m) #[] #[], .int .i64 (E l).length, kv], .int .i64 z] w fun e w' => e = .returned (.int .i64 (cntB (E l) z : Nat)) ∧ Below w.heap.size w w' := by
  have HT := hid ht
  have HC := hid C
  have hLn : (E l).length ≤ l.length := rise_len (C.scl.rise l) (C.scl.lt l)
  obtain he | ⟨p, tl, he⟩ : E l = [] ∨ ∃ p tl, E l = p :: tl := by
    cases E l with
    | nil => exact .inl rfl
    | cons p tl => exact .inr ⟨p, tl, rfl⟩
  · rw [he] at hk ⊢
    obtain rfl : kv = .slice none 0 0 := hk
    have HA := hid (show cntB [] z = 0 from rfl)
    have HB := hid (show Below w.heap.size w ((w.alloc (.cells #[.string ⟨l.toArray⟩, .func (.func m) #[] #[], .int .i64 (([] : List Nat).length : Nat), .slice none 0 0] 75)).alloc (.cells #[.int .i64 z] 3)) from ((Below.refl _ _).alloc (Nat.le_refl _) _).alloc (by simp) _)
    clear he hLn ht C
    go_enter Tryd.func43, Tryd.ntmps43
    go_wp2_with fail
    refine (search0_any _ _).mono ?_
    rintro e w1 ⟨rfl, hw1⟩
    subst hw1
    go_wp2
    go_ret
    exact ⟨by rw [HA.out]; rfl, HB.out⟩
  · have HE := hid he
    rw [kpt_all C.scl l p tl he] at hk
    obtain ⟨G, c, rfl, _, hG, g0, g1⟩ := hk
    obtain ⟨n, hn⟩ : ∃ n, n = (E l).length := ⟨_, rfl⟩
    have HNN := hid hn
    rw [← hn]
    have hLn' : n ≤ l.length := by rw [HNN.out]; exact hLn
    have b0 := (Cb.new w #[.string ⟨l.toArray⟩, .func (.func m) #[] #[], .int .i64 (n : Nat), .slice (some ⟨G, 0, none⟩) 1 c] 75).alloc (.cells #[.int .i64 z] 3)
    have b1 := Cb.new (w.alloc (.cells #[.string ⟨l.toArray⟩, .func (.func m) #[] #[], .int .i64 (n : Nat), .slice (some ⟨G, 0, none⟩) 1 c] 75)) #[.int .i64 z] 3
    have hB : Below w.heap.size w ((w.alloc (.cells #[.string ⟨l.toArray⟩, .func (.func m) #[] #[], .int .i64 (n : Nat), .slice (some ⟨G, 0, none⟩) 1 c] 75)).alloc (.cells #[.int .i64 z] 3)) := ((Below.refl _ _).alloc (Nat.le_refl _) _).alloc (by simp) _
    rw [World.size_alloc] at b1
    have c0 := (hB.cell (p := ⟨G, 0, none⟩) hG).trans g0
    have c1 := (hB.cell (p := ⟨G, 1, none⟩) hG).trans g1
    have HT2 := hid (HT.out.below hB)
    obtain ⟨w2, hw2⟩ : ∃ w2, w2 = (w.alloc (.cells #[.string ⟨l.toArray⟩, .func (.func m) #[] #[], .int .i64 (n : Nat), .slice (some ⟨G, 0, none⟩) 1 c] 75)).alloc (.cells #[.int .i64 z] 3) := ⟨_, rfl⟩
    have HFL := hid (below1_any l m G c (n : Nat) z p w.heap.size (w.heap.size + 1) w2 (by rw [hw2]; exact b0) (by rw [hw2]; exact b1) (by rw [hw2]; exact c1))
    have HSR := hid (search1_any 68 w.heap.size (w.heap.size + 1) _ w2 Tryd.callS1 HFL.out)
    rw [← hw2] at b0 b1 hB c0 c1 HT2
    have HB0 := hid b0
    have HB1 := hid b1
    have HBB := hid hB
    have HG0 := hid c0
    have HG1 := hid c1
    have hGs : G < w2.heap.size := by have := hB.size; omega
    have HGS := hid hGs
    have hpl : p < l.length := C.scl.lt l p (by rw [he]; exact List.mem_cons_self ..)
    have HA := hid (show cntB (E l) z = (rch (n : Nat) z (E l) 0 p).1 by
      have h := rch_count z (E l) 0 p (n : Nat) (C.scl.rise l) (by rw [HNN.out]; omega)
      rw [h, Nat.zero_add])
    by_cases hz : z ≤ (p : Int)
    · have HV := hid (show cntB (E l) z = 0 by
        rw [HA.out, he, rch, if_pos (.inl hz)])
      rw [decide_eq_true hz, show sv true = 0 from rfl] at HSR
      clear b0 b1 hB c0 c1 he hn ht C hLn hz g0 g1 HFL
      go_enter Tryd.func43, Tryd.ntmps43
      go_wp2_with fail
      rw [← hw2]
      refine HSR.out.mono ?_
      rintro e w3 ⟨rfl, be⟩
      have HB3 := hid (HBB.out.trans (be.mono (by have := HBB.out.size; omega)))
      clear be hw2
      go_wp2
      go_ret
      exact ⟨by rw [HV.out]; rfl, HB3.out⟩
    · rw [decide_eq_false hz, show sv false = 1 from rfl] at HSR
      clear b0 b1 hB c0 c1 he hn ht C hLn g0 g1 HFL
      go_enter Tryd.func43, Tryd.ntmps43
      go_wp2_with fail
      rw [← hw2]
      refine HSR.out.mono ?_
      rintro e w3 ⟨rfl, be⟩
      have HB3 := hid (HBB.out.trans (be.mono (by have := HBB.out.size; omega)))
      have HQ := hid (show Cb w3 w.heap.size #[.string ⟨l.toArray⟩, .func (.func m) #[] #[], .int .i64 (n : Nat), .slice (some ⟨G, 0, none⟩) 1 c] 75 ∧ Cb w3 (w.heap.size + 1) #[.int .i64 z] 3 ∧ w3.cell? ⟨G, 0, none⟩ = some (.int .i64 (0 : Nat)) ∧ w3.cell? ⟨G, 1, none⟩ = some (.int .i64 p) from ⟨HB0.out.below be, HB1.out.below be, (be.cell (p := ⟨G, 0, none⟩) HGS.out).trans HG0.out, (be.cell (p := ⟨G, 1, none⟩) HGS.out).trans HG1.out⟩)
      have HT3 := hid (HT2.out.below be)
      clear be hw2
      have hw0 : IntKind.i64.wrap 0 = 0 := by rw [IntKind.wrap_i64]; omega
      go_wp2_with fail
      refine wp_region_mix [(0, true), (1, true), (2, true), (3, true), (4, true), (5, true), (6, true), (7, true), (8, true), (9, true), (10, false), (11, true), (12, true)] (fun w' => Cb w' w.heap.size #[.string ⟨l.toArray⟩, .func (.func m) #[] #[], .int .i64 (n : Nat), .slice (some ⟨G, 0, none⟩) 1 c] 75 ∧ Cb w' (w.heap.size + 1) #[.int .i64 z] 3 ∧ w'.cell? ⟨G, 0, none⟩ = some (.int .i64 (0 : Nat)) ∧ w'.cell? ⟨G, 1, none⟩ = some (.int .i64 p)) (fun _ => false) (by kernel_rfl) (by kernel_rfl) (fun j hj => by cases hj) rfl (by kernel_rfl) HQ.out ?_
      iterate 10 (refine mix_free ?_ rfl (by kernel_rfl) (fun w' hS => ?_) ?_; (rotate_left; (have z0 := hS.1.cell 0; have z1 := hS.1.cell 1; have z2 := hS.1.cell 2; have z3 := hS.1.cell 3; have z4 := hS.2.1.cell 0; have z5 := hS.2.2.1; have z6 := hS.2.2.2; simp only [List.getElem?_toArray, List.getElem?_cons_zero, List.getElem?_cons_succ] at z0 z1 z2 z3 z4; go_simp; with_reducible rfl); rotate_left))
      refine mix_go rfl (by kernel_rfl) fun KK hKK => ?_
      go_simp
      refine (reach_any m g E HC.out l p tl HE.out (n : Nat) (some ⟨G, 0, none⟩) 1 c (n : Nat) z w3.drew (show TbW w3.drew from ⟨HT3.out.tabs, HT3.out.two⟩) hl).mono ?_
      rintro e w4 ⟨rfl, be⟩
      have HB4 := hid (HB3.out.trans (Below.mono (show Below w3.heap.size w3 w4 from ((Below.refl _ _).drew).trans be) HB3.out.size))
      refine hKK _ _ (fun _ => ⟨HQ.out.1.dr.below be, HQ.out.2.1.dr.below be, (be.cell (p := ⟨G, 0, none⟩) (cell_lt HQ.out.2.2.1)).trans HQ.out.2.2.1, (be.cell (p := ⟨G, 1, none⟩) (cell_lt HQ.out.2.2.1)).trans HQ.out.2.2.2⟩) ?_
      clear hKK KK
      iterate 2 (refine mix_free ?_ rfl (by kernel_rfl) (fun w' hS => ?_) ?_; (rotate_left; (go_simp; with_reducible rfl); rotate_left))
      refine mix_end (NoPanic.normal ?_)
      go_simp
      go_wp2
      go_ret
      exact ⟨by rw [HA.out]; rfl, HB4.out⟩
set_option maxHeartbeats 2000000 in
theorem place_any (m g : Nat) (E : List UInt8 → List Nat) (C : Cnt m g E) (l : List UInt8) (lw : Nat) (kv : Value) (z : Int) (w : World) (ht : TbW w) (hl : l.length ≤ 100) (hk : Kpd w lw kv (kpt l 0 (E l))) :
    Calls Tryd.prog 44 #[.agg #[.string ⟨l.toArray⟩, .func (.func m) #[] #[], .int .i64 (E l).length, kv], .int .i64 z] w fun e w' => e = .returned (.int .i64 (plcB (E l) z l.length : Nat)) ∧ Below w.heap.size w w' := by
  have HT := hid ht
  have HC := hid C
  have hLn : (E l).length ≤ l.length := rise_len (C.scl.rise l) (C.scl.lt l)
  obtain he | ⟨p, tl, he⟩ : E l = [] ∨ ∃ p tl, E l = p :: tl := by
    cases E l with
    | nil => exact .inl rfl
    | cons p tl => exact .inr ⟨p, tl, rfl⟩
  · rw [he] at hk ⊢
    obtain rfl : kv = .slice none 0 0 := hk
    have HA := hid (show plcB [] z l.length = if z < 0 then 0 else l.length from rfl)
    have HB := hid (show Below w.heap.size w ((w.alloc (.cells #[.string ⟨l.toArray⟩, .func (.func m) #[] #[], .int .i64 (([] : List Nat).length : Nat), .slice none 0 0] 75)).alloc (.cells #[.int .i64 z] 3)) from ((Below.refl _ _).alloc (Nat.le_refl _) _).alloc (by simp) _)
    clear he hLn ht C
    go_enter Tryd.func44, Tryd.ntmps44
    by_cases hz : z < 0
    · rw [if_pos hz] at HA
      go_wp2
      go_ret
      exact ⟨by rw [HA.out]; rfl, HB.out⟩
    · rw [if_neg hz] at HA
      have hz0 : 0 ≤ z := by omega
      go_wp2
      go_ret
      exact ⟨by rw [HA.out]; rfl, HB.out⟩
  · have HE := hid he
    rw [kpt_all C.scl l p tl he] at hk
    obtain ⟨G, c, rfl, _, hG, g0, g1⟩ := hk
    obtain ⟨n, hn⟩ : ∃ n, n = (E l).length := ⟨_, rfl⟩
    have HNN := hid hn
    rw [← hn]
    have hLn' : n ≤ l.length := by rw [HNN.out]; exact hLn
    have b0 := (Cb.new w #[.string ⟨l.toArray⟩, .func (.func m) #[] #[], .int .i64 (n : Nat), .slice (some ⟨G, 0, none⟩) 1 c] 75).alloc (.cells #[.int .i64 z] 3)
    have b1 := Cb.new (w.alloc (.cells #[.string ⟨l.toArray⟩, .func (.func m) #[] #[], .int .i64 (n : Nat), .slice (some ⟨G, 0, none⟩) 1 c] 75)) #[.int .i64 z] 3
    have hB : Below w.heap.size w ((w.alloc (.cells #[.string ⟨l.toArray⟩, .func (.func m) #[] #[], .int .i64 (n : Nat), .slice (some ⟨G, 0, none⟩) 1 c] 75)).alloc (.cells #[.int .i64 z] 3)) := ((Below.refl _ _).alloc (Nat.le_refl _) _).alloc (by simp) _
    rw [World.size_alloc] at b1
    have c0 := (hB.cell (p := ⟨G, 0, none⟩) hG).trans g0
    have c1 := (hB.cell (p := ⟨G, 1, none⟩) hG).trans g1
    have HT2 := hid (HT.out.below hB)
    obtain ⟨w2, hw2⟩ : ∃ w2, w2 = (w.alloc (.cells #[.string ⟨l.toArray⟩, .func (.func m) #[] #[], .int .i64 (n : Nat), .slice (some ⟨G, 0, none⟩) 1 c] 75)).alloc (.cells #[.int .i64 z] 3) := ⟨_, rfl⟩
    have HFL := hid (place1_any l m G c (n : Nat) z 0 w.heap.size (w.heap.size + 1) w2 (by rw [hw2]; exact b0) (by rw [hw2]; exact b1) (by rw [hw2]; exact c0))
    have HSR := hid (search1_any 70 w.heap.size (w.heap.size + 1) _ w2 Tryd.callS2 HFL.out)
    rw [← hw2] at b0 b1 hB c0 c1 HT2
    have HB0 := hid b0
    have HB1 := hid b1
    have HBB := hid hB
    have HG0 := hid c0
    have HG1 := hid c1
    have hGs : G < w2.heap.size := by have := hB.size; omega
    have HGS := hid hGs
    have hpl : p < l.length := C.scl.lt l p (by rw [he]; exact List.mem_cons_self ..)
    go_enter Tryd.func44, Tryd.ntmps44
    by_cases hz : z < 0
    · have HV := hid (show plcB (E l) z l.length = 0 from if_pos hz)
      rw [hw2] at HBB
      clear b0 b1 hB c0 c1 he hn ht C hLn g0 g1 HFL HSR hw2
      go_wp2
      go_ret
      exact ⟨by rw [HV.out]; rfl, HBB.out⟩
    by_cases hzn : (n : Int) ≤ z
    · have HV := hid (show plcB (E l) z l.length = l.length by
        unfold plcB
        rw [if_neg hz, List.getElem?_eq_none (by rw [← HNN.out]; omega)]; rfl)
      rw [hw2] at HBB
      clear b0 b1 hB c0 c1 he hn ht C hLn g0 g1 HFL HSR hw2
      go_wp2
      go_ret
      exact ⟨by rw [HV.out]; rfl, HBB.out⟩
    obtain ⟨j, rfl⟩ : ∃ j : Nat, z = j := ⟨z.toNat, by omega⟩
    have HA := hid (show plcB (E l) j l.length = (rch (j : Nat) (l.length : Nat) (E l) 0 p).2 by
      have h := rch_place (l.length : Nat) (E l) 0 p j (fun q hq => by have := C.scl.lt l q hq; omega) (by rw [← HNN.out]; omega)
      rw [Nat.zero_add] at h
      unfold plcB
      rw [if_neg hz, h, Int.toNat_natCast]
      have hj : j < (E l).length := by rw [← HNN.out]; omega
      rw [List.getElem?_eq_getElem hj]; rfl)
    have hjn : ¬ (j : Int) < ((0 : Nat) : Int) := by omega
    rw [decide_eq_false hjn, show sv false = 1 from rfl] at HSR
    clear b0 b1 hB c0 c1 he hn ht C hLn g0 g1 HFL hjn
    go_wp2_with fail
    rw [← hw2]
    refine HSR.out.mono ?_
    rintro e w3 ⟨rfl, be⟩
    have HB3 := hid (HBB.out.trans (be.mono (by have := HBB.out.size; omega)))
    have HQ := hid (show Cb w3 w.heap.size #[.string ⟨l.toArray⟩, .func (.func m) #[] #[], .int .i64 (n : Nat), .slice (some ⟨G, 0, none⟩) 1 c] 75 ∧ Cb w3 (w.heap.size + 1) #[.int .i64 (j : Int)] 3 ∧ w3.cell? ⟨G, 0, none⟩ = some (.int .i64 (0 : Nat)) ∧ w3.cell? ⟨G, 1, none⟩ = some (.int .i64 p) from ⟨HB0.out.below be, HB1.out.below be, (be.cell (p := ⟨G, 0, none⟩) HGS.out).trans HG0.out, (be.cell (p := ⟨G, 1, none⟩) HGS.out).trans HG1.out⟩)
    have HT3 := hid (HT2.out.below be)
    clear be hw2
    have hw0 : IntKind.i64.wrap 0 = 0 := by rw [IntKind.wrap_i64]; omega
    go_wp2_with fail
    refine wp_region_mix [(0, true), (1, true), (2, true), (3, true), (4, true), (5, true), (6, true), (7, true), (8, true), (9, true), (10, true), (11, false), (12, true), (13, true)] (fun w' => Cb w' w.heap.size #[.string ⟨l.toArray⟩, .func (.func m) #[] #[], .int .i64 (n : Nat), .slice (some ⟨G, 0, none⟩) 1 c] 75 ∧ Cb w' (w.heap.size + 1) #[.int .i64 (j : Int)] 3 ∧ w'.cell? ⟨G, 0, none⟩ = some (.int .i64 (0 : Nat)) ∧ w'.cell? ⟨G, 1, none⟩ = some (.int .i64 p)) (fun _ => false) (by kernel_rfl) (by kernel_rfl) (fun j hj => by cases hj) rfl (by kernel_rfl) HQ.out ?_
    iterate 11 (refine mix_free ?_ rfl (by kernel_rfl) (fun w' hS => ?_) ?_; (rotate_left; (have z0 := hS.1.cell 0; have z1 := hS.1.cell 1; have z2 := hS.1.cell 2; have z3 := hS.1.cell 3; have z4 := hS.2.1.cell 0; have z5 := hS.2.2.1; have z6 := hS.2.2.2; simp only [List.getElem?_toArray, List.getElem?_cons_zero, List.getElem?_cons_succ] at z0 z1 z2 z3 z4; go_simp; with_reducible rfl); rotate_left))
    refine mix_go rfl (by kernel_rfl) fun KK hKK => ?_
    go_simp
    refine (reach_any m g E HC.out l p tl HE.out (n : Nat) (some ⟨G, 0, none⟩) 1 c (j : Nat) (l.length : Nat) w3.drew (show TbW w3.drew from ⟨HT3.out.tabs, HT3.out.two⟩) hl).mono ?_
    rintro e w4 ⟨rfl, be⟩
    have HB4 := hid (HB3.out.trans (Below.mono (show Below w3.heap.size w3 w4 from ((Below.refl _ _).drew).trans be) HB3.out.size))
    refine hKK _ _ (fun _ => ⟨HQ.out.1.dr.below be, HQ.out.2.1.dr.below be, (be.cell (p := ⟨G, 0, none⟩) (cell_lt HQ.out.2.2.1)).trans HQ.out.2.2.1, (be.cell (p := ⟨G, 1, none⟩) (cell_lt HQ.out.2.2.1)).trans HQ.out.2.2.2⟩) ?_
    clear hKK KK
    iterate 2 (refine mix_free ?_ rfl (by kernel_rfl) (fun w' hS => ?_) ?_; (rotate_left; (go_simp; with_reducible rfl); rotate_left))
    refine mix_end (NoPanic.normal ?_)
    go_simp
    go_wp2
    go_ret
    exact ⟨by rw [HA.out]; rfl, HB4.out⟩
end Go.Proofs.YtffbdnlfknomnaaDoor.Wt
