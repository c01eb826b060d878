/- The contracts of Live and Sure (the document's). -/
import Derived.Test.YtmgoedcaeemilaaDoorRLive7
namespace Go.Proofs.YtmgoedcaeemilaaDoor
open Go.RowKit

set_option maxHeartbeats 4000000 in
theorem rlive_any (c : Int) (no to : Option Addr) (n nc m tc : Nat) (R : Rw) (T : List Int) (w : World) (hd : DRd w no n to m R T) :
    Calls Tryd.prog 30 #[.agg #[.int .i64 c, .slice no n nc, .slice to m tc]] w fun e w' => SetQ w n (LivP c R T n) e w' := by
  have HD := hid hd
  clear hd
  go_enter Tryd.func30, Tryd.ntmps30
  go_wp2_with fail
  refine (rcheck_any c no to n nc m tc R T (w.alloc (.cells #[.int .i64 c, .slice no n nc, .slice to m tc] 32)) (HD.out.below below_box)).mono ?_
  rintro e w1 ⟨rfl, b1⟩
  have HB := hid (show Below (w.heap.size + 1) (w.alloc (.cells #[.int .i64 c, .slice no n nc, .slice to m tc] 32)) w1 by simpa using b1)
  clear b1
  obtain ⟨c0, c1, c2⟩ := box3 HB.out
  rcases bool_cases (gdB c R T) with hg | hg
  rotate_left
  · have HN := hid (not_gd hg)
    have e0 : gdC c R T = 70 := by unfold gdC; rw [hg]; rfl
    rw [e0]
    clear hg e0
    go_wp2
    go_ret
    exact setQ_none (box_trans HB.out) (fun x h => HN.out h.1)
  have HG := hid (gd_of hg)
  have e0 : gdC c R T = 0 := by unfold gdC; rw [hg]; rfl
  rw [e0]
  clear hg e0
  have hn : n ≤ 1024 := by have := HG.out.n2; have := HD.out.hn; omega
  have hsz : w.heap.size + 1 ≤ w1.heap.size := by have := HB.out.size; simpa using this
  go_wp2_with fail
  refine (rlive0_any c no to n nc m tc R T w1 (HD.out.boxed HB.out) HG.out).mono ?_
  rintro e w2 ⟨bs, gl, vc, rfl, o2, hbl, hiff, b2⟩
  have HB2 := hid (HB.out.trans (b2.mono hsz))
  have HO := hid o2
  have HBL := hid hbl
  have HIF := hid hiff
  clear o2 hbl hiff b2 c0 c1 c2
  go_wp2_with fail
  refine (numbers_any _ vc n bs w2 HBL.out (rdb_own HO.out) (by omega)).mono ?_
  rintro e w3 ⟨Q, vo, vc3, rfl, o3, hp, hr, hm, b3⟩
  have HX := hid (show SetQ w n (LivP c R T n) (.returned (.slice vo Q.length vc3)) w3 from by
    have hs2 := HB2.out.size
    simp at hs2
    exact ⟨Q, vo, vc3, rfl, own_mono' o3 (by omega), hp, hr, fun x => (hm x).trans ((isB_true HIF.out x).trans ⟨fun h => ⟨HG.out, h⟩, fun h => h.2⟩), (box_trans HB2.out).trans (b3.mono (by omega))⟩)
  clear o3 hp hr hm b3
  go_wp2
  go_ret
  exact HX.out
/-- What is struck leads to where it fails. -/
def SuS (R : Rw) (T : List Int) (n : Nat) (bs : List Bool) : Prop := ∀ u : Nat, bs[u]? = some false → Lead R (fun s => s < n ∧ flB R T s = true) u
/-- What is left takes, and leads to what is left. -/
def SuC (R : Rw) (bs : List Bool) (k : Nat) : Prop := ∀ u : Nat, u < k → bs[u]? = some true → ∀ row, R[u]? = some row → ∀ z ∈ row, ∃ p : Nat, z = (p : Int) ∧ bs[p]? = some true
def SuT (T : List Int) (bs : List Bool) : Prop := ∀ u : Nat, bs[u]? = some true → T[u]? = some 1
def SuP (R : Rw) (T : List Int) (n : Nat) (N0 : Nat) (b : Bool) (s : Nat) (bs : List Bool) : Prop := SuS R T n bs ∧ SuT T bs ∧ cnt true bs ≤ N0 ∧ (b = false → SuC R bs s) ∧ (b = true → cnt true bs < N0)
theorem cnt_set_true {l : List Bool} {k : Nat} (h : l[k]? = some true) : cnt true (l.set k false) + 1 = cnt true l := cnt_set h
theorem SuS.set {R : Rw} {T : List Int} {n s : Nat} {bs : List Bool} (h : SuS R T n bs) (hl : bs.length = n) (hs : s < n) (hq : Lead R (fun s => s < n ∧ flB R T s = true) s) : SuS R T n (bs.set s false) := fun u hu => by
  rw [at_set (by omega)] at hu
  split at hu
  · rename_i e; subst e; exact hq
  · exact h u hu
theorem SuT.set {T : List Int} {s : Nat} {bs : List Bool} (h : SuT T bs) (hs : s < bs.length) : SuT T (bs.set s false) := fun u hu => by
  rw [at_set hs] at hu
  split at hu
  · cases hu
  · exact h u hu
theorem SuC.done {R : Rw} {T : List Int} {n : Nat} {bs : List Bool} (h : SuC R bs n) (hs : SuS R T n bs) (ht : SuT T bs) (hR : R.length = n) (hl : bs.length = n) (u : Nat) : bs[u]? = some true ↔ u < n ∧ ¬ Lead R (fun s => s < n ∧ flB R T s = true) u := by
  constructor
  · intro hu
    refine ⟨by rw [← hl]; exact (List.getElem?_eq_some_iff.1 hu).1, fun hL => ?_⟩
    have key : ∀ {u : Nat}, Lead R (fun s => s < n ∧ flB R T s = true) u → bs[u]? ≠ some true := fun {u} hL => by
      refine Lead.least (A := fun u => bs[u]? ≠ some true) (fun s ha hb => ?_) (fun s t row hr htr hA hb => ?_) hL
      · have h1 := of_decide_eq_true ha.2
        rcases h1 with h1 | h1
        · rw [ht s hb] at h1; cases h1
        · have hsl : s < R.length := by rw [hR]; exact ha.1
          have hr : R[s]? = some R[s] := List.getElem?_eq_getElem hsl
          rw [hr] at h1
          obtain ⟨p, hp, _⟩ := h s ha.1 hb _ hr (-1) h1
          omega
      · obtain ⟨p, hp, hb2⟩ := h s (by rw [← hR]; exact (List.getElem?_eq_some_iff.1 hr).1) hb row hr (t : Int) htr
        have e : t = p := by omega
        subst e
        exact hA hb2
    exact key hL hu
  · rintro ⟨hu, hL⟩
    have hb : bs[u]? = some (bs[u]'(by omega)) := List.getElem?_eq_getElem _
    cases hv : bs[u]'(by omega) with
    | true => rw [hv] at hb; exact hb
    | false => rw [hv] at hb; exact absurd (hs u hb) hL
set_option maxHeartbeats 16000000 in
theorem rsure_any (c : Int) (no to : Option Addr) (n nc m tc : Nat) (R : Rw) (T : List Int) (w : World) (hd : DRd w no n to m R T) :
    Calls Tryd.prog 32 #[.agg #[.int .i64 c, .slice no n nc, .slice to m tc]] w fun e w' => SetQ w n (SurP c R T n) e w' := by
  have HD := hid hd
  clear hd
  go_enter Tryd.func32, Tryd.ntmps32
  go_wp2_with fail
  refine (rcheck_any c no to n nc m tc R T (w.alloc (.cells #[.int .i64 c, .slice no n nc, .slice to m tc] 32)) (HD.out.below below_box)).mono ?_
  rintro e w1 ⟨rfl, b1⟩
  have HB := hid (show Below (w.heap.size + 1) (w.alloc (.cells #[.int .i64 c, .slice no n nc, .slice to m tc] 32)) w1 by simpa using b1)
  clear b1
  obtain ⟨c0, c1, c2⟩ := box3 HB.out
  rcases bool_cases (gdB c R T) with hg | hg
  rotate_left
  · have HN := hid (not_gd hg)
    have e0 : gdC c R T = 70 := by unfold gdC; rw [hg]; rfl
    rw [e0]
    clear hg e0
    go_wp2
    go_ret
    exact setQ_none (box_trans HB.out) (fun x h => HN.out h.1)
  have HG := hid (gd_of hg)
  have e0 : gdC c R T = 0 := by unfold gdC; rw [hg]; rfl
  rw [e0]
  clear hg e0
  have hn3 : n ≤ 1024 := by have := HG.out.n2; have := HD.out.hn; omega
  have hsz : w.heap.size + 1 ≤ w1.heap.size := by have := HB.out.size; simpa using this
  have HNR := hid HD.out.hn
  have HMN := hid (show m = n by have := HG.out.tl; have := HD.out.hm; have := HD.out.hn; omega)
  obtain ⟨i1, hi4, hy0, hy1, hy2⟩ := info_parts Tryd.info4
  have M2 := mkS Tryd.underlying53 hi4 hy0 hy1 hy2 (by decide) n (by omega)
  obtain ⟨Z2, hZ2⟩ : ∃ Z, Z = madeCells (Value.bool false).cells n := ⟨_, rfl⟩
  rw [← hZ2] at M2
  have HZ2 := hid hZ2
  clear hZ2
  go_wp2
  clear M2 hi4 hy0 hy1 hy2 c0 c1 c2
  obtain ⟨bx, hbx⟩ : ∃ o : Obj, o = .cells #[.int .i64 c, .slice no n nc, .slice to m tc] 32 := ⟨_, rfl⟩
  have HOB := hid hbx
  rw [← hbx] at HB
  obtain ⟨W0, hW0⟩ : ∃ W, W = w1.alloc (.cells Z2 4) := ⟨_, rfl⟩
  rw [← hW0]
  obtain ⟨gl, hgl⟩ : ∃ g, g = w1.heap.size := ⟨_, rfl⟩
  obtain ⟨P, hPP⟩ : ∃ g, g = w.heap.size := ⟨_, rfl⟩
  rw [← hgl, ← hPP]
  have HPP := hid hPP
  have HM0 := hid (show MI w W0 bx gl n (List.replicate n false) by
    refine ⟨by rw [hW0]; exact HB.out.alloc hsz _, ?_, by simp, by omega⟩
    have h := bls_falses n
    rw [Nat.mul_one] at h
    rw [hW0, ← h, ← HZ2.out, hgl]
    exact heap_alloc_new _ _)
  have HLEN := hid (show ∀ (s : Nat) (row : List Int) (t : Int), R[s]? = some row → T[s]? = some t → (row.length : Int) = c ∧ (t = 0 ∨ t = 1) ∧ ∀ x ∈ row, -1 ≤ x ∧ x < (n : Int) from fun s row t hr ht => by
    have h1 := HG.out.row s row t hr ht
    refine ⟨h1.2.1, h1.1, fun x hx => ?_⟩
    have h2 := h1.2.2 x hx
    have := HNR.out
    omega)
  have HBQ := hid (show ∀ W, Below (w.heap.size + 1) (w.alloc bx) W → DRd W no n to m R T ∧ W.cell? ⟨P, 0, none⟩ = some (.int .i64 c) ∧ W.cell? ⟨P, 1, none⟩ = some (.slice no n nc) ∧ W.cell? ⟨P, 2, none⟩ = some (.slice to m tc) from fun W h => by
    have h2 := box_trans h
    refine ⟨HD.out.below h2, ?_⟩
    rw [HPP.out]
    rw [HOB.out] at h
    exact box3 h)
  clear hW0 hgl hPP hbx HZ2 HOB HD HB hsz
  go_loopw [5] (fun x wr => ∃ (s : Nat) (bs : List Bool), x = .int .i64 s ∧ s ≤ n ∧ Hid (MI w wr bx gl n bs) ∧ Hid (∀ u : Nat, u < s → ∀ b, bs[u]? = some b → (b = true → T[u]? = some 1) ∧ (b = false → T[u]? = some 0))) (fun x _ => n - (intOf x).toNat)
  case atStart => exact ⟨0, _, rfl, Nat.zero_le _, HM0, fun u hu => (by omega)⟩
  case round =>
    clear HM0
    obtain ⟨s, bs, rfl, hs, HM, HU⟩ := hrel
    by_cases hlt : s < n
    · obtain ⟨dd, _, _, c2⟩ := HBQ.out _ HM.out.low
      obtain ⟨row, _, _, _, hr, _⟩ := dd.row hlt
      obtain ⟨t, ta, ht, rfl, hta, t0⟩ := dd.tk (show s < m by rw [HMN.out]; exact hlt)
      obtain ⟨_, ht01, _⟩ := HLEN.out s row t hr ht
      obtain ⟨b0, _, m0, m1⟩ := HM.out.at hlt
      have i3 : (s : Int) < (n : Int) := by omega
      have i4 : (s : Int) < (m : Int) := by have := HMN.out; omega
      have i0' : (0 : Int) ≤ (s : Int) := by omega
      obtain ⟨v, hv⟩ : ∃ v : Bool, (t == 1) = v := ⟨_, rfl⟩
      have HM2 := hid (HM.out.set s v)
      have HU2 := hid (show ∀ u : Nat, u < s + 1 → ∀ b, (bs.set s v)[u]? = some b → (b = true → T[u]? = some 1) ∧ (b = false → T[u]? = some 0) from fun u hu b hb => by
        rw [at_set (by rw [HM.out.len]; exact hlt)] at hb
        split at hb
        · rename_i e
          subst e
          cases hb
          refine ⟨fun e => ?_, fun e => ?_⟩
          · rw [e] at hv; rw [ht, beq_iff_eq.1 hv]
          · rw [e] at hv
            have h1 := beq_eq_false_iff_ne.1 hv
            rcases ht01 with h2 | h2
            · rw [ht, h2]
            · exact absurd h2 h1
        · exact HU.out u (by omega) b hb)
      clear ht ht01 hr dd
      go_wp2
      go_roundw
      case rel => exact ⟨s + 1, _, by go_num, by omega, HM2, HU2⟩
      case measure => simp [intOf]; omega
    · have i3 : ¬ (s : Int) < (n : Int) := by omega
      have HS0 := hid (show SuS R T n bs from fun u hu => by
        have hun : u < n := by rw [← HM.out.len]; exact (List.getElem?_eq_some_iff.1 hu).1
        exact .here ⟨hun, decide_eq_true (.inl ((HU.out u (by omega) false hu).2 rfl))⟩)
      have HT0 := hid (show SuT T bs from fun u hu => by
        have hun : u < n := by rw [← HM.out.len]; exact (List.getElem?_eq_some_iff.1 hu).1
        exact (HU.out u (by omega) true hu).1 rfl)
      clear HU
      go_wp2
      go_loopw [6] (fun x wr => ∃ (b : Bool) (bs : List Bool), x = .bool b ∧ Hid (MI w wr bx gl n bs) ∧ Hid (SuS R T n bs) ∧ Hid (SuT T bs) ∧ Hid (b = false → SuC R bs n)) (fun x wr => mB true wr gl + bN x)
      case atStart => exact ⟨true, bs, rfl, HM, HS0, HT0, fun h => by cases h⟩
      case round =>
        clear HM HS0 HT0
        obtain ⟨b, bs0, rfl, HM0, HS0, HT0, HC0⟩ := hrel
        cases b with
        | false =>
          have HX := hid ((HC0.out rfl).done HS0.out HT0.out HNR.out.symm HM0.out.len)
          have HO := hid (HM0.out.own (by omega))
          have HLW := hid (box_trans HM0.out.low)
          go_wp2_with fail
          refine (numbers_any _ n n bs0 _ HM0.out.len (rdb_own HO.out) (by omega)).mono ?_
          rintro e w3 ⟨Q, vo, vc3, rfl, o3, hp, hr, hm, b3⟩
          have HY := hid (show SetQ w n (SurP c R T n) (.returned (.slice vo Q.length vc3)) w3 from by
            have hs2 := HLW.out.size
            exact ⟨Q, vo, vc3, rfl, own_mono' o3 hs2, hp, hr, fun x => (hm x).trans ((isB_true HX.out x).trans ⟨fun h => ⟨HG.out, h⟩, fun h => h.2⟩), HLW.out.trans (b3.mono hs2)⟩)
          clear o3 hp hr hm b3
          go_wp2
          go_ret
          exact HY.out
        | true =>
          obtain ⟨N0, hN0⟩ : ∃ N0, N0 = cnt true bs0 := ⟨_, rfl⟩
          have HMB := hid (show mB true wr gl = N0 by rw [mB_row HM0.out.mrk, hN0])
          have HL0 := hid (show SuP R T n N0 false 0 bs0 from ⟨HS0.out, HT0.out, by omega, fun _ u hu => (by omega), fun h => (by cases h)⟩)
          clear hN0 HC0 HS0 HT0
          go_wp2
          go_loopw [6, 7] (fun x y wr => ∃ (b : Bool) (s : Nat) (bs : List Bool), x = .bool b ∧ y = .int .i64 s ∧ s ≤ n ∧ Hid (MI w wr bx gl n bs) ∧ Hid (SuP R T n N0 b s bs)) (fun _ y _ => n - (intOf y).toNat)
          case atStart => exact ⟨false, 0, bs0, rfl, rfl, Nat.zero_le _, HM0, HL0⟩
          case round =>
            clear HM0 HL0
            obtain ⟨b, s, bs, rfl, rfl, hs, HM, HLP⟩ := hrel
            by_cases hlt : s < n
            · obtain ⟨dd, c0, c1, c2⟩ := HBQ.out _ HM.out.low
              obtain ⟨row, a, co, cc, hr, rfl, ha, a0, hI, hrl⟩ := dd.row hlt
              obtain ⟨t, ta, ht, hto, hta, t0⟩ := dd.tk (show s < m by rw [HMN.out]; exact hlt)
              obtain ⟨hlc, _, hrng⟩ := HLEN.out s row t hr ht
              obtain ⟨l, hl⟩ : ∃ l, l = row.length := ⟨_, rfl⟩
              rw [← hl] at hlc
              have HL := hid hl
              have HR := hid hr
              have HRG := hid hrng
              have HLC := hid hlc
              have hl64 : l ≤ 64 := by have := HG.out.c2; omega
              have i3 : (s : Int) < (n : Int) := by omega
              have i0' : (0 : Int) ≤ (s : Int) := by omega
              have HIN := hid (show SuS R T n bs ∧ SuT T bs ∧ cnt true bs ≤ N0 ∧ (b = true → cnt true bs < N0) ∧ (b = false → SuC R bs s ∧ (bs[s]? = some true → ∀ (k : Nat) (z : Int), k < 0 → row[k]? = some z → ∃ p : Nat, z = (p : Int) ∧ bs[p]? = some true)) from ⟨HLP.out.1, HLP.out.2.1, HLP.out.2.2.1, HLP.out.2.2.2.2, fun h => ⟨HLP.out.2.2.2.1 h, fun _ k z hk => (by omega)⟩⟩)
              clear hr ht hI hrl hl hrng dd hlc HLP c0 c1 c2 a0 ha t0 hta hto
              go_wp2
              go_loopw [6, 8] (fun x y wr => ∃ (b : Bool) (j : Nat) (bs : List Bool), x = .bool b ∧ y = .int .i64 j ∧ j ≤ l ∧ Hid (MI w wr bx gl n bs) ∧ Hid (SuS R T n bs ∧ SuT T bs ∧ cnt true bs ≤ N0 ∧ (b = true → cnt true bs < N0) ∧ (b = false → SuC R bs s ∧ (bs[s]? = some true → ∀ (k : Nat) (z : Int), k < j → row[k]? = some z → ∃ p : Nat, z = (p : Int) ∧ bs[p]? = some true)))) (fun _ y _ => l - (intOf y).toNat)
              case atStart => exact ⟨b, 0, bs, rfl, rfl, Nat.zero_le _, HM, HIN⟩
              case round =>
                clear HM HIN
                obtain ⟨b, j, bs, rfl, rfl, hj, HM, HIN⟩ := hrel
                obtain ⟨dd, c0, c1, c2⟩ := HBQ.out _ HM.out.low
                obtain ⟨v, hv, m0, m1⟩ := HM.out.at hlt
                have HV := hid hv
                clear hv
                by_cases hjl : j < l ∧ v = true
                · obtain ⟨hjl, rfl⟩ := hjl
                  obtain ⟨row2, a2, co, cc, hr2, ha2, hb2, a0, hI, hrl⟩ := dd.row hlt
                  rw [HR.out] at hr2
                  cases hr2
                  cases ha2
                  rw [← HL.out] at a0
                  obtain ⟨z, d, hz, rfl, hd, d0⟩ := hI.at (k := j) (by rw [← HL.out]; exact hjl)
                  have HZ := hid hz
                  have hzr := HRG.out z (List.mem_of_getElem? hz)
                  have j3 : (j : Int) < c := by have := HLC.out; omega
                  have j4 : decide ((j : Int) < c) = true := decide_eq_true j3
                  have j5 : (j : Int) < (l : Int) := by omega
                  clear hz hI hrl dd
                  have hcs := cnt_set_true HV.out
                  have hstrike : Lead R (fun s => s < n ∧ flB R T s = true) s → SuS R T n (bs.set s false) ∧ SuT T (bs.set s false) ∧ cnt true (bs.set s false) ≤ N0 ∧ (true = true → cnt true (bs.set s false) < N0) ∧ (true = false → SuC R (bs.set s false) s ∧ ((bs.set s false)[s]? = some true → ∀ (k : Nat) (z : Int), k < j + 1 → row[k]? = some z → ∃ p : Nat, z = (p : Int) ∧ (bs.set s false)[p]? = some true)) := fun hL => ⟨HIN.out.1.set HM.out.len hlt hL, HIN.out.2.1.set (by rw [HM.out.len]; exact hlt), by have := HIN.out.2.2.1; omega, fun _ => (by have := HIN.out.2.2.1; omega), fun h => (by cases h)⟩
                  have HM2 := hid (HM.out.set s false)
                  by_cases z0 : z < 0
                  · have z0' : decide (z < 0) = true := decide_eq_true z0
                    have HF := hid (hstrike (.here ⟨hlt, decide_eq_true (.inr (by rw [HR.out]; have e : z = -1 := (by omega); rw [← e]; exact List.mem_of_getElem? HZ.out))⟩))
                    clear hstrike hcs
                    go_wp2
                    go_roundw
                    case rel => exact ⟨true, j + 1, _, rfl, by go_num, by omega, HM2, HF⟩
                    case measure => simp [intOf]; omega
                  · have z0' : decide (z < 0) = false := decide_eq_false z0
                    obtain ⟨p, rfl⟩ : ∃ p : Nat, z = (p : Int) := ⟨z.toNat, by omega⟩
                    have hpn : p < n := by omega
                    have p1 : (p : Int) < (n : Int) := by omega
                    have p0 : (0 : Int) ≤ (p : Int) := by omega
                    obtain ⟨b2, hb2, n0, _⟩ := HM.out.at hpn
                    cases b2 with
                    | false =>
                      have HF := hid (hstrike (.on HR.out (List.mem_of_getElem? HZ.out) (HIN.out.1 p hb2)))
                      clear hstrike hcs hb2
                      go_wp2
                      go_roundw
                      case rel => exact ⟨true, j + 1, _, rfl, by go_num, by omega, HM2, HF⟩
                      case measure => simp [intOf]; omega
                    | true =>
                      have HF := hid (show SuS R T n bs ∧ SuT T bs ∧ cnt true bs ≤ N0 ∧ (b = true → cnt true bs < N0) ∧ (b = false → SuC R bs s ∧ (bs[s]? = some true → ∀ (k : Nat) (z : Int), k < j + 1 → row[k]? = some z → ∃ p : Nat, z = (p : Int) ∧ bs[p]? = some true)) from ⟨HIN.out.1, HIN.out.2.1, HIN.out.2.2.1, HIN.out.2.2.2.1, fun h => ⟨(HIN.out.2.2.2.2 h).1, fun hs k z hk hz => by
                        by_cases e : k = j
                        · subst e
                          rw [HZ.out] at hz
                          cases hz
                          exact ⟨p, rfl, hb2⟩
                        · exact (HIN.out.2.2.2.2 h).2 hs k z (by omega) hz⟩⟩)
                      clear hstrike hcs hb2 HM2
                      go_wp2
                      go_roundw
                      case rel => exact ⟨b, j + 1, bs, rfl, by go_num, by omega, HM, HF⟩
                      case measure => simp [intOf]; omega
                · have HF := hid (show SuP R T n N0 b (s + 1) bs from ⟨HIN.out.1, HIN.out.2.1, HIN.out.2.2.1, fun hb u hu hub row' hr' z hz => by
                    obtain ⟨h1, h2⟩ := HIN.out.2.2.2.2 hb
                    by_cases e : u = s
                    · subst e
                      rw [HR.out] at hr'
                      cases hr'
                      rw [HV.out] at hub
                      obtain ⟨k, hk⟩ := List.mem_iff_getElem?.1 hz
                      have hvt := Option.some.inj hub
                      exact h2 (by rw [HV.out, hvt]) k z (by have := (List.getElem?_eq_some_iff.1 hk).1; have := HL.out; have : ¬ j < l := fun h => hjl ⟨h, hvt⟩; omega) hk
                    · exact h1 u (by omega) hub row' hr' z hz, HIN.out.2.2.2.1⟩)
                  clear dd
                  by_cases jl : j < l
                  · have j4 : decide ((j : Int) < c) = true := decide_eq_true (by have := HLC.out; omega)
                    have hv0 : v = false := by
                      cases v with
                      | true => exact absurd ⟨jl, rfl⟩ hjl
                      | false => rfl
                    subst hv0
                    clear hjl
                    go_wp2
                    go_roundw
                    case rel => exact ⟨b, s + 1, bs, rfl, by go_num, by omega, HM, HF⟩
                    case measure => simp [intOf]; omega
                  · have j4 : decide ((j : Int) < c) = false := decide_eq_false (by have := HLC.out; omega)
                    clear hjl
                    go_wp2
                    go_roundw
                    case rel => exact ⟨b, s + 1, bs, rfl, by go_num, by omega, HM, HF⟩
                    case measure => simp [intOf]; omega
            · have i3 : ¬ (s : Int) < (n : Int) := by omega
              have HMB2 := hid (mB_row (b := true) HM.out.mrk)
              have hlt2 : mB true wr gl + bN (.bool b) < N0 + 1 := by
                rw [HMB2.out]
                cases b with
                | true => have := HLP.out.2.2.2.2 rfl; show cnt true bs + 1 < N0 + 1; omega
                | false => have := HLP.out.2.2.1; show cnt true bs + 0 < N0 + 1; omega
              have HLT := hid hlt2
              clear hlt2
              go_wp2
              go_roundw
              case rel => exact ⟨b, bs, rfl, HM, HLP.out.1, HLP.out.2.1, fun hb u hu => HLP.out.2.2.2.1 hb u (by omega)⟩
              case measure => rw [HMB.out]; exact HLT.out
end Go.Proofs.YtmgoedcaeemilaaDoor
