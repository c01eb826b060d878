/- The contract of the document's Print. -/
import Derived.Test.YtfahbdlcokoghabGreatDoorHex
import Derived.Test.YtfahbdlcokoghabGreatDoorPrn
import Derived.Lib.AppendStr
import Derived.Lib.BufferRead
namespace Go.Proofs.YtfahbdlcokoghabGreatDoor
open Go.RowKit

theorem Tryz.info5 : (Tryz.prog.info? 5).map (fun i => (i.zero, i.size, i.bytes)) = some (some (.int .u8 0), 1, 1) := by kernel_rfl
def u8s (l : List UInt8) : List Value := l.map fun b => Value.int .u8 (b.toNat : Int)
theorem u8s_app (a b : List UInt8) : u8s (a ++ b) = u8s a ++ u8s b := by simp [u8s]
theorem u8s_len (a : List UInt8) : (u8s a).length = a.length := by simp [u8s]
theorem strCells_list (l : List UInt8) : Lib.strCells ⟨l.toArray⟩ = u8s l := by simp [Lib.strCells, u8s]
theorem conv_row (w : World) (B : Nat) (v : Value) (l : List UInt8) (h : w.ownsRow B 5 1 v l.length (u8s l)) :
    (convert 38 9 v).run Tryz.prog w = .ok (.string ⟨l.toArray⟩) w := by
  rcases h.2 with ⟨rfl, h0⟩ | ⟨g, cap, cur, rfl, _⟩
  · have : l = [] := List.eq_nil_of_length_eq_zero h0
    subst this
    exact Lib.run_convert_nil_bytes w 38 9 5 0 Tryz.underlying38 Tryz.underlying5 Tryz.underlying9
  · exact run_convert_bytes_back w 38 9 5 ⟨g, 0, none⟩ cap l Tryz.underlying38 Tryz.underlying5 Tryz.underlying9 (fun j hj => h.cells (g := g) rfl j _ (by simp [u8s, hj]))
theorem row_str {w : World} {C : Nat} {v : Value} {T u : List UInt8} {s : ByteArray} (hs : s = ⟨u.toArray⟩) (h : w.ownsRow C 5 1 v (T.length + s.size) (u8s T ++ Lib.strCells s)) : w.ownsRow C 5 1 v (T ++ u).length (u8s (T ++ u)) := by
  subst hs
  rw [strCells_list] at h
  have e : (⟨u.toArray⟩ : ByteArray).size = u.length := by show u.toArray.size = _; simp
  rw [e] at h
  rw [u8s_app, List.length_append]
  exact h
theorem rhex_eq (z : Int) (X : List UInt8) (w : World) (h0 : 0 ≤ z) (h1 : z ≤ 1114111) (hX : X = hex z.toNat) :
    Calls Tryz.prog 22 #[.int .i32 z] w fun e w' => e = .returned (.string ⟨X.toArray⟩) ∧ w' = w := by
  have h := rhex_any z.toNat w (by omega)
  rw [show ((z.toNat : Nat) : Int) = z by omega, ← hX] at h
  exact h
set_option maxHeartbeats 2000000 in
set_option maxRecDepth 100000 in
theorem rprint_any (ao : Option Addr) (ac : Nat) (l : List Rg) (w : World) (ha : RdR w ao l) (hl : l.length ≤ 2000) :
    Calls Tryz.prog 8 #[.slice ao l.length ac] w fun e w' => e = .returned (.string ⟨(prt (nrm l)).toArray⟩) ∧ Below w.heap.size w w' := by
  obtain ⟨i0, hi, hz0, hz1, hz2⟩ := info_parts Tryz.info5
  have HN := hid (rnorm_any ao ac l w ha (by omega))
  have hnl := nrm_len l
  have HNF := hid (nrm_nf l)
  clear ha
  go_enter Tryz.func8, Tryz.ntmps8
  go_wp2_with fail
  refine HN.out.mono ?_
  rintro e w1 ⟨v1, rfl, o1, hb1⟩
  have HB1 := hid hb1
  have hs1 := hb1.size
  obtain ⟨no, nc, hv1, hr1⟩ := rdr_row o1
  subst hv1
  obtain ⟨s, hsd⟩ : ∃ s, s = nrm l := ⟨_, rfl⟩
  rw [← hsd] at HNF hnl hr1
  have HSD := hid hsd
  rw [← hsd]
  have HR1 := hid hr1
  clear o1 hb1 hr1 HN hsd
  go_wp2_with fail
  go_loopw [4, 5] (fun v i wr => ∃ k : Nat, i = .int .i64 (k : Int) ∧ k ≤ s.length ∧ Hid (wr.ownsRow w1.heap.size 5 1 v (prt (s.take k)).length (u8s (prt (s.take k)))) ∧ Hid (Below w1.heap.size w1 wr)) (fun _ i _ => s.length - (intOf i).toNat)
  case atStart => exact ⟨0, rfl, by omega, World.ownsRow_nil _ _ _ _, Below.refl _ _⟩
  case round =>
    obtain ⟨k, rfl, hk, HO, HB⟩ := hrel
    have hsr := HB.out.size
    by_cases hlt : k < s.length
    · obtain ⟨a, rfl, ha, a0, a1⟩ := (HR1.out.below HB.out) k s[k] (List.getElem?_eq_getElem hlt)
      obtain ⟨g0, g1, g2⟩ := nf_at HNF.out (List.getElem?_eq_getElem hlt)
      unfold top at g2
      have HT := hid (show prt (s.take (k + 1)) = prt (s.take k) ++ ((if prt (s.take k) = [] then [] else [32]) ++ prI s[k]) by rw [List.take_succ_eq_append_getElem hlt, prt_snoc])
      have hpl := prt_len (s.take k)
      rw [List.length_take] at hpl
      obtain ⟨T, hTd⟩ : ∃ T, T = prt (s.take k) := ⟨_, rfl⟩
      have HE := hid (show T = [] ↔ k = 0 by
        rw [hTd, prt_nil_iff, List.take_eq_nil_iff]
        constructor
        · rintro (h | h)
          · exact h
          · rw [h] at hlt; simp at hlt
        · exact fun h => .inl h)
      rw [← hTd] at HO HT hpl
      have HPI := hid (show prI s[k] = cod s[k].1.toNat ++ if s[k].1 = s[k].2 then [] else 45 :: cod s[k].2.toNat from rfl)
      have HRD := hid (show ∀ W, Below w1.heap.size w1 W → W.cell? (a.add (k * 2)) = some (.int .i32 s[k].1) ∧ W.cell? ⟨(a.add (k * 2)).block, (a.add (k * 2)).off + 1, none⟩ = some (.int .i32 s[k].2) from fun W hW => by
        obtain ⟨a', e', _, b0, b1⟩ := (HR1.out.below hW) k s[k] (List.getElem?_eq_getElem hlt)
        cases e'
        exact ⟨b0, b1⟩)
      generalize s[k].1 = f0 at *
      generalize s[k].2 = f1 at *
      have hTl : T.length ≤ 100000 := by omega
      obtain ⟨X0, hX0⟩ : ∃ X0, X0 = hex f0.toNat := ⟨_, rfl⟩
      obtain ⟨X1, hX1⟩ : ∃ X1, X1 = hex f1.toNat := ⟨_, rfl⟩
      have HH0 := hid (fun W => rhex_eq f0 X0 W (by omega) (by omega) hX0)
      have HH1 := hid (fun W => rhex_eq f1 X1 W (by omega) (by omega) hX1)
      have s0 : (⟨X0.toArray⟩ : ByteArray).size ≤ 6 := by show X0.toArray.size ≤ 6; rw [List.size_toArray, hX0]; unfold hex; rw [hxL_len]; exact (wdt_bd _).2
      have s1 : (⟨X1.toArray⟩ : ByteArray).size ≤ 6 := by show X1.toArray.size ≤ 6; rw [List.size_toArray, hX1]; unfold hex; rw [hxL_len]; exact (wdt_bd _).2
      have lx0 : X0.length ≤ 6 := by rw [hX0]; unfold hex; rw [hxL_len]; exact (wdt_bd _).2
      have lx1 : X1.length ≤ 6 := by rw [hX1]; unfold hex; rw [hxL_len]; exact (wdt_bd _).2
      have HC0 := hid (show (⟨#[85, 43]⟩ : ByteArray) ++ ⟨X0.toArray⟩ = ⟨(cod f0.toNat).toArray⟩ by rw [hX0]; apply ByteArray.ext; simp [cod])
      have HC1 := hid (show (⟨#[45, 85, 43]⟩ : ByteArray) ++ ⟨X1.toArray⟩ = ⟨(45 :: cod f1.toNat).toArray⟩ by rw [hX1]; apply ByteArray.ext; simp [cod])
      have z0 : ((⟨#[85, 43]⟩ : ByteArray) ++ ⟨X0.toArray⟩).size ≤ 8 := by rw [HC0.out]; show (cod f0.toNat).toArray.size ≤ 8; rw [List.size_toArray, cod_len]; have := wdt_bd f0.toNat; omega
      have z1 : ((⟨#[45, 85, 43]⟩ : ByteArray) ++ ⟨X1.toArray⟩).size ≤ 9 := by rw [HC1.out]; show (45 :: cod f1.toNat).toArray.size ≤ 9; rw [List.size_toArray, List.length_cons, cod_len]; have := wdt_bd f1.toNat; omega
      have hcl0 : (cod f0.toNat).length ≤ 8 := by rw [cod_len]; have := wdt_bd f0.toNat; omega
      clear hTd hX0 hX1
      by_cases hk0 : k = 0
      · have HTI := hid (show (if T = [] then ([] : List UInt8) else [32]) = [] by rw [if_pos (HE.out.2 hk0)])
        have tk : ¬ (0 : Int) < (k : Int) := by omega
        clear hk0
        obtain ⟨c0, c1⟩ := HRD.out wr HB.out
        have hsz2 := HB.out.size
        go_wp2_with fail
        refine (HH0.out _).mono ?_
        rintro e w' ⟨rfl, hw⟩
        obtain rfl := hw.symm
        go_wp2_with (at_builtin; refine Lib.wpList_append_own_string _ rfl _ _ 38 9 rfl w1.heap.size 5 i0 Tryz.underlying38 Tryz.underlying9 hi hz0 hz1 hz2 _ T.length (u8s T) rfl HO.out _ rfl (by unfold maxLen; (try simp only [List.length_append, List.length_cons, List.length_nil]); omega) (by (try simp only [List.length_append, List.length_cons, List.length_nil]); omega) (by omega) ?_; intro v2 w2 o2 gr2 _)
        have HO2 := hid (row_str HC0.out o2)
        have HB2 := hid (HB.out.grown gr2 (by omega) (fun j hj => (HO.out.lt j hj).1))
        have hs2 := HB2.out.size
        obtain ⟨d0, d1⟩ := HRD.out w2 HB2.out
        clear o2 gr2
        go_wp2_with fail
        by_cases hne : f0 = f1
        · have t1 : (f1 != f0) = false := by rw [hne]; simp
          have HTF := hid (show prt (s.take (k + 1)) = T ++ cod f0.toNat by rw [HT.out, HPI.out, if_pos hne, HTI.out]; simp)
          clear hne
          go_region
          go_wp2
          go_roundw
          case rel => exact ⟨k + 1, by go_num, by omega, by rw [HTF.out]; exact HO2.out.drew, HB2.out.drew⟩
          case measure => simp [intOf]; omega
        · have t1 : (f1 != f0) = true := bne_iff_ne.2 (fun h => hne h.symm)
          have HTF := hid (show prt (s.take (k + 1)) = (T ++ cod f0.toNat) ++ (45 :: cod f1.toNat) by rw [HT.out, HPI.out, if_neg hne, HTI.out]; simp)
          obtain ⟨T2, hT2⟩ : ∃ T2, T2 = T ++ cod f0.toNat := ⟨_, rfl⟩
          have hl2 : T2.length ≤ 100100 := by rw [hT2, List.length_append]; omega
          rw [← hT2] at HO2 HTF
          clear hT2
          clear hne
          go_region
          go_wp2_with fail
          refine (HH1.out _).mono ?_
          rintro e w' ⟨rfl, hw⟩
          obtain rfl := hw.symm
          go_wp2_with (at_builtin; refine Lib.wpList_append_own_string _ rfl _ _ 38 9 rfl w1.heap.size 5 i0 Tryz.underlying38 Tryz.underlying9 hi hz0 hz1 hz2 _ T2.length (u8s T2) rfl HO2.out.drew _ rfl (by unfold maxLen; omega) (by omega) (by simp; omega) ?_; intro v3 w3 o3 gr3 _)
          have HO3 := hid (row_str HC1.out o3)
          have HB3 := hid (HB2.out.drew.grown gr3 (by simpa using hs2) (fun j hj => (HO2.out.drew.lt j hj).1))
          clear o3 gr3
          go_wp2
          go_roundw
          case rel => exact ⟨k + 1, by go_num, by omega, by rw [HTF.out]; exact HO3.out, HB3.out⟩
          case measure => simp [intOf]; omega
      · have HTI := hid (show (if T = [] then ([] : List UInt8) else [32]) = [32] by rw [if_neg (fun h => hk0 (HE.out.1 h))])
        have tk : (0 : Int) < (k : Int) := by omega
        clear hk0
        obtain ⟨T1, hT1⟩ : ∃ T1, T1 = T ++ [32] := ⟨_, rfl⟩
        have hT1l : T1.length ≤ 100001 := by rw [hT1]; simp; omega
        have HT1 := hid hT1
        clear hT1
        go_wp2_with (at_builtin; refine wpList_append_own _ rfl _ _ 38 rfl w1.heap.size 5 i0 (.int .u8 0) 1 1 Tryz.underlying38 hi hz0 hz1 hz2 rfl (by decide) _ T.length (u8s T) rfl (HO.out.alloc _) ⟨wr.heap.size, 0, none⟩ 1 1 [.int .u8 32] rfl rfl (cell_one_new _ _ _) (by simp [Value.oneCell']) (by unfold maxLen; omega) (by omega) (by simp; omega) ?_; intro v0 w0 o0 gr0 _; have HO0 := hid (show w0.ownsRow w1.heap.size 5 1 v0 T1.length (u8s T1) by rw [HT1.out, u8s_app, List.length_append]; exact o0); have HBq := hid ((HB.out.alloc hsr (.cells #[.int .u8 32] 5)).grown gr0 (by simp; omega) (fun j hj => (HO.out.lt j hj).1)); obtain ⟨c0, c1⟩ := HRD.out w0 HBq.out; clear o0 gr0)
        have hsz2 := HBq.out.size
        refine (HH0.out _).mono ?_
        rintro e w' ⟨rfl, hw⟩
        obtain rfl := hw.symm
        go_wp2_with (at_builtin; refine Lib.wpList_append_own_string _ rfl _ _ 38 9 rfl w1.heap.size 5 i0 Tryz.underlying38 Tryz.underlying9 hi hz0 hz1 hz2 _ T1.length (u8s T1) rfl HO0.out _ rfl (by unfold maxLen; (try simp only [List.length_append, List.length_cons, List.length_nil]); omega) (by (try simp only [List.length_append, List.length_cons, List.length_nil]); omega) (by omega) ?_; intro v2 w2 o2 gr2 _)
        have HO2 := hid (row_str HC0.out o2)
        have HB2 := hid (HBq.out.grown gr2 (by omega) (fun j hj => (HO0.out.lt j hj).1))
        have hs2 := HB2.out.size
        obtain ⟨d0, d1⟩ := HRD.out w2 HB2.out
        clear o2 gr2
        go_wp2_with fail
        by_cases hne : f0 = f1
        · have t1 : (f1 != f0) = false := by rw [hne]; simp
          have HTF := hid (show prt (s.take (k + 1)) = T1 ++ cod f0.toNat by rw [HT.out, HPI.out, if_pos hne, HTI.out]; rw [HT1.out]; simp)
          clear hne
          go_region
          go_wp2
          go_roundw
          case rel => exact ⟨k + 1, by go_num, by omega, by rw [HTF.out]; exact HO2.out.drew, HB2.out.drew⟩
          case measure => simp [intOf]; omega
        · have t1 : (f1 != f0) = true := bne_iff_ne.2 (fun h => hne h.symm)
          have HTF := hid (show prt (s.take (k + 1)) = (T1 ++ cod f0.toNat) ++ (45 :: cod f1.toNat) by rw [HT.out, HPI.out, if_neg hne, HTI.out]; rw [HT1.out]; simp)
          obtain ⟨T2, hT2⟩ : ∃ T2, T2 = T1 ++ cod f0.toNat := ⟨_, rfl⟩
          have hl2 : T2.length ≤ 100100 := by rw [hT2, List.length_append]; omega
          rw [← hT2] at HO2 HTF
          clear hT2
          clear hne
          go_region
          go_wp2_with fail
          refine (HH1.out _).mono ?_
          rintro e w' ⟨rfl, hw⟩
          obtain rfl := hw.symm
          go_wp2_with (at_builtin; refine Lib.wpList_append_own_string _ rfl _ _ 38 9 rfl w1.heap.size 5 i0 Tryz.underlying38 Tryz.underlying9 hi hz0 hz1 hz2 _ T2.length (u8s T2) rfl HO2.out.drew _ rfl (by unfold maxLen; omega) (by omega) (by simp; omega) ?_; intro v3 w3 o3 gr3 _)
          have HO3 := hid (row_str HC1.out o3)
          have HB3 := hid (HB2.out.drew.grown gr3 (by simpa using hs2) (fun j hj => (HO2.out.drew.lt j hj).1))
          clear o3 gr3
          go_wp2
          go_roundw
          case rel => exact ⟨k + 1, by go_num, by omega, by rw [HTF.out]; exact HO3.out, HB3.out⟩
          case measure => simp [intOf]; omega
    · have HTF := hid (show prt (s.take k) = prt s by rw [List.take_of_length_le (by omega)])
      have tk : ¬ (k : Int) < (s.length : Int) := by omega
      have hcv := conv_row wr w1.heap.size u4 (prt (s.take k)) HO.out
      rw [HTF.out] at hcv
      obtain ⟨P, hP⟩ : ∃ P, P = prt s := ⟨_, rfl⟩
      rw [← hP] at hcv
      have HP := hid hP
      clear hP
      go_wp2
      go_ret
      exact ⟨by rw [HP.out, HSD.out]; rfl, HB1.out.trans (HB.out.mono hs1)⟩
end Go.Proofs.YtfahbdlcokoghabGreatDoor
