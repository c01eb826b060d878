/- The contract of closed (package nfa), at every. -/
import Derived.Test.YteacehfihogmpaaDoorLets
namespace Go.Proofs.YteacehfihogmpaaDoor
open Go.RowKit

section
variable {B : Nat} {w : World} {P wt ft ib n : Nat} {ws fs : Nat → Option Addr × Nat} {WL : List (List Wy)} {FL : List (List Int)} {I : List Int} {sets : Int}
theorem i64s_one (l : List Int) : ∀ u ∈ i64s l, u.oneCell' = true := fun u hu => by
  obtain ⟨z, _, rfl⟩ := List.mem_map.1 hu
  rfl
theorem Tryd.info3 : (Tryd.prog.info? 3).map (fun i => (i.zero, i.size, i.bytes)) = some (some (.int .i64 0), 1, 8) := by kernel_rfl
/-- The row that lies at a slice: its cells. -/
theorem own_at {w : World} {vo : Option Addr} {m vc : Nat} {l : List Int} (h : w.ownsRow B 3 1 (.slice vo m vc) m (i64s l)) {i : Nat} {x : Int} (hi : l[i]? = some x) : ∃ g, vo = some ⟨g, 0, none⟩ ∧ B ≤ g ∧ g < w.heap.size ∧ w.cell? ⟨g, i, none⟩ = some (.int .i64 x) := by
  have hil := (List.getElem?_eq_some_iff.1 hi).1
  have hl := h.1
  rw [i64s_len] at hl
  rcases h.2 with ⟨_, h0⟩ | ⟨g, cap, cur, hv, hb, hg, _⟩
  · omega
  · simp only [Value.slice.injEq, true_and] at hv
    obtain ⟨rfl, rfl⟩ := hv
    refine ⟨g, rfl, hb, (Array.getElem?_eq_some_iff.1 hg).1, ?_⟩
    rw [h.cellAt i (by omega), i64s_at, hi]
    rfl
theorem own_row {w : World} {v : Value} {m : Nat} {xs : List Value} (h : w.ownsRow B 3 1 v m xs) : ∀ k, v.ownBlock = some k → B ≤ k := fun k hk => (h.lt k hk).1
theorem own_len {w : World} {v : Value} {m : Nat} {l : List Int} (h : w.ownsRow B 3 1 v m (i64s l)) : l.length = m := by have := h.1; rw [i64s_len] at this; omega
theorem own_keepCh {w w' : World} {v : Value} {m : Nat} {xs : List Value} (h : w.ownsRow B 3 1 v m xs) (hP : P < B) (hI : ib < B) (hc : Ch P ib none w w') : w'.ownsRow B 3 1 v m xs := by
  refine ⟨h.1, ?_⟩
  rcases h.2 with h' | ⟨q, cap, cur, hv, hB, hg, rest⟩
  · exact .inl h'
  · exact .inr ⟨q, cap, cur, hv, hB, (hc.block q (Array.getElem?_eq_some_iff.1 hg).1 (by omega) (by omega) (by simp)).trans hg, rest⟩
theorem news_one (w : World) (v : Value) (T : TypeId) : ∀ j u, [v][j]? = some u → (w.alloc (.cells #[v] T)).cell? ((⟨w.heap.size, 0, none⟩ : Addr).add j) = some u := fun j u hj => by
  match j, hj with
  | 0, hj =>
    have : v = u := by simpa using hj
    subst this
    rw [show (⟨w.heap.size, 0, none⟩ : Addr).add 0 = ⟨w.heap.size, 0, none⟩ by unfold Addr.add; split <;> simp_all]
    rw [cell_of_row _ w.heap.size 0 #[v] T (0, 0) (show (w.heap.push _)[w.heap.size]? = _ by simp)]
    rfl
  | j + 1, hj => simp at hj
/-- What closed leaves. -/
def ClQ (B : Nat) (w : World) (P wt ft ib n : Nat) (ws fs : Nat → Option Addr × Nat) (WL : List (List Wy)) (FL : List (List Int)) (sets : Int) (row : Option Nat) (A : Int → Prop) (v : Value) (w' : World) : Prop :=
  ∃ (S I : List Int) (vo : Option Addr) (vc : Nat), v = .slice vo S.length vc ∧ w'.ownsRow B 3 1 (.slice vo S.length vc) S.length (i64s S) ∧ MAt B w' P wt ft ib n ws fs WL FL I sets ∧ Mk I sets n S ∧ (∀ x, x ∈ S ↔ Rch FL A x) ∧ Ch P ib row w w' ∧ Fr w row (Value.slice vo S.length vc).ownBlock
set_option maxHeartbeats 2000000 in
set_option maxRecDepth 100000 in
theorem closed_any (S0 : List Int) (so : Option Addr) (m sc : Nat) (h : MAt B w P wt ft ib n ws fs WL FL I sets) (ho : w.ownsRow B 3 1 (.slice so m sc) m (i64s S0)) (hm : Mk I sets n S0) (hFL : ∀ l ∈ FL, ∀ t ∈ l, 0 ≤ t ∧ t < (n : Int)) (hn : n ≤ 4096) :
    Calls Tryd.prog 105 #[.pointer (some ⟨P, 0, none⟩), .slice so m sc, .func (.func 69) #[] #[]] w fun e w' => ∃ v, e = .returned v ∧ ClQ B w P wt ft ib n ws fs WL FL sets (Value.slice so m sc).ownBlock (· ∈ S0) v w' := by
  obtain ⟨i0, hi3, hz0, hz1, hz2⟩ := info_parts Tryd.info3
  have hPB := h.hPB
  have hIB := h.hIB
  have hml : m ≤ n := by have h1 := own_len ho; have h2 := hm.le; omega
  obtain ⟨r0, hr0⟩ : ∃ r, r = (Value.slice so m sc).ownBlock := ⟨_, rfl⟩
  have HR0 := hid (show ∀ k, r0 = some k → B ≤ k by rw [hr0]; exact own_row ho)
  have HFR0 := hid (show Fr w r0 (Value.slice so m sc).ownBlock by rw [← hr0]; exact Fr.self w _)
  have HST := hid (Cls.start (FL := FL) hm)
  have HO0 := hid ho
  have HM0 := hid h
  have HFL := hid hFL
  have HS0 := hid (own_len ho)
  rw [← hr0]
  clear hr0 h ho hm hFL
  go_enter Tryd.func105, Tryd.ntmps105
  go_wp2
  go_loopw [7, 1] (fun x y wr => ∃ (i m' : Nat) (S I' : List Int) (vo : Option Addr) (vc : Nat), x = .int .i64 i ∧ y = .slice vo m' vc ∧ i ≤ m' ∧ m' ≤ n ∧ Hid (S.length = m') ∧ Hid (wr.ownsRow B 3 1 (.slice vo m' vc) m' (i64s S)) ∧ Hid (MAt B wr P wt ft ib n ws fs WL FL I' sets) ∧ Hid (Cls FL S0 n sets i 0 S I') ∧ Hid (Ch P ib r0 w wr) ∧ Hid (Fr w r0 (Value.slice vo m' vc).ownBlock)) (fun x _ _ => n - (intOf x).toNat)
  case atStart => exact ⟨0, m, S0, I, so, sc, rfl, rfl, Nat.zero_le _, hml, HS0, HO0, HM0, HST, Ch.refl _ _ _ _, HFR0⟩
  case round =>
    obtain ⟨i, m', S, I', vo, vc, rfl, rfl, hi, hm'n, HSL, HO, HM, HC, HCh, HFr⟩ := hrel
    by_cases hlt : i < m'
    · have hiS : i < S.length := by have := HSL.out; omega
      have HSI := hid (List.getElem?_eq_getElem hiS)
      obtain ⟨x, hx⟩ : ∃ x, x = S[i] := ⟨_, rfl⟩
      rw [← hx] at HSI
      clear hx
      have hxb := HC.out.mks.bd x (List.mem_of_getElem? HSI.out)
      obtain ⟨s, rfl⟩ : ∃ s : Nat, x = (s : Int) := ⟨x.toNat, by omega⟩
      obtain ⟨g, rfl, hgB, hgw, c0⟩ := own_at HO.out HSI.out
      have c1 := HM.out.c1
      have hsl : s < FL.length := by have := HM.out.fl; omega
      have HL := hid (List.getElem?_eq_getElem hsl)
      obtain ⟨l, hl⟩ : ∃ l, l = FL[s] := ⟨_, rfl⟩
      rw [← hl] at HL
      clear hl hsl
      obtain ⟨f0, hlm, hF0⟩ := HM.out.hF s l HL.out
      obtain ⟨ln, hln⟩ : ∃ ln, ln = l.length := ⟨_, rfl⟩
      rw [← hln] at f0 hlm
      unfold most at hlm
      obtain ⟨fo, fc, hfs⟩ : ∃ fo fc, fs s = (fo, fc) := ⟨_, _, rfl⟩
      rw [hfs] at f0
      have HFS := hid hfs
      have HLN := hid hln
      clear hfs hln hF0
      dsimp only at f0
      have hs3 : (s : Int) < (n : Int) := by omega
      have hs0 : (0 : Int) ≤ (s : Int) := by omega
      have hi3' : (i : Int) < (m' : Int) := by omega
      have hi0' : (0 : Int) ≤ (i : Int) := by omega
      clear hxb hiS
      go_wp2_with fail
      go_quiet (fail)
      have HO1 := hid (own_keepCh HO.out hPB hIB (Ch.drew P ib none wr nq))
      have HM1 := hid (HM.out.drew nq)
      have HCh1 := hid (HCh.out.trans (Fr.none _ _) (Ch.drew P ib none wr nq))
      clear HO HM HCh c0 c1 f0
      clear hgw
      go_wp2
      go_loopw [27, 1] (fun x y wr => ∃ (j m2 : Nat) (S2 I2 : List Int) (vo : Option Addr) (vc : Nat), x = .int .i64 j ∧ y = .slice vo m2 vc ∧ j ≤ ln ∧ i < m2 ∧ m2 ≤ n ∧ Hid (S2.length = m2) ∧ Hid (S2[i]? = some (s : Int)) ∧ Hid (wr.ownsRow B 3 1 (.slice vo m2 vc) m2 (i64s S2)) ∧ Hid (MAt B wr P wt ft ib n ws fs WL FL I2 sets) ∧ Hid (Cls FL S0 n sets i j S2 I2) ∧ Hid (Ch P ib r0 w wr) ∧ Hid (Fr w r0 (Value.slice vo m2 vc).ownBlock)) (fun x _ _ => ln - (intOf x).toNat)
      case atStart => exact ⟨0, m', S, I', some ⟨g, 0, none⟩, vc, rfl, rfl, Nat.zero_le _, hlt, hm'n, HSL, HSI, HO1, HM1, HC, HCh1, HFr⟩
      case round =>
        clear HO1 HM1 HC HCh1 HFr HSL HSI hi hlt hm'n hi3' hgB
        obtain ⟨j, m2, S2, I2, vo, vc2, rfl, rfl, hj, hi2, hm2n, HSL, HSI, HO, HM, HC, HCh, HFr⟩ := hrel
        by_cases hjl : j < ln
        · have hjl' : j < l.length := by have := HLN.out; omega
          have HLJ := hid (List.getElem?_eq_getElem hjl')
          obtain ⟨y, hy⟩ : ∃ y, y = l[j] := ⟨_, rfl⟩
          rw [← hy] at HLJ
          clear hy hjl'
          have hyb := HFL.out l (List.mem_of_getElem? HL.out) y (List.mem_of_getElem? HLJ.out)
          obtain ⟨t, rfl⟩ : ∃ t : Nat, y = (t : Int) := ⟨y.toNat, by omega⟩
          have htn : t < n := by omega
          obtain ⟨_, _, hF0⟩ := HM.out.hF s l HL.out
          obtain ⟨a, ea, _, _, _, a0⟩ := hF0 j t HLJ.out
          rw [HFS.out] at ea
          dsimp only at ea
          subst ea
          have j3 : (j : Int) < (ln : Int) := by omega
          have j0 : (0 : Int) ≤ (j : Int) := by omega
          clear hyb hF0
          by_cases hI : I2[t]? = some sets
          · have HC2 := hid (HC.out.seen HSI.out HL.out HLJ.out htn hI)
            have HI := hid hI
            clear hI
            go_wp2_with (first | (go_at_call 69; refine (every_any _ _).mono ?_; rintro e w2 ⟨rfl, hw⟩; obtain rfl := hw.symm) | (go_at_call 104; refine (let_no t HM.out htn HI.out).mono ?_; rintro e w2 ⟨rfl, k2, hw2⟩; have HM2 := hid (show MAt B w2 P wt ft ib n ws fs WL FL I2 sets by rw [hw2]; exact HM.out.drew k2); have HO2 := hid (show w2.ownsRow B 3 1 (.slice vo m2 vc2) m2 (i64s S2) by rw [hw2]; exact own_keepCh HO.out hPB hIB (Ch.drew P ib none wr k2)); have HCh2 := hid (show Ch P ib r0 w w2 by rw [hw2]; exact HCh.out.trans (Fr.none _ _) (Ch.drew P ib none wr k2)); clear hw2))
            go_roundw
            case rel => exact ⟨j + 1, m2, S2, I2, vo, vc2, by go_num, rfl, by omega, hi2, hm2n, HSL, HSI, HO2, HM2, HC2, HCh2, HFr⟩
            case measure => simp [intOf]; omega
          · have HC2 := hid (HC.out.new HSI.out HL.out HLJ.out htn hI)
            have HI := hid hI
            clear hI
            have hm3 : m2 + 1 ≤ n := by have h1 := HC2.out.mks.le; rw [List.length_append, HSL.out] at h1; simpa using h1
            have HSI2 := hid (show (S2 ++ [(t : Int)])[i]? = some (s : Int) by rw [List.getElem?_append_left (by have := HSL.out; omega)]; exact HSI.out)
            go_wp2_with (first | (go_at_call 69; refine (every_any _ _).mono ?_; rintro e w2 ⟨rfl, hw⟩; obtain rfl := hw.symm) | (go_at_call 104; refine (let_yes t HM.out htn HI.out).mono ?_; rintro e w2 ⟨rfl, k2, hw2⟩; have HM2 := hid (show MAt B w2 P wt ft ib n ws fs WL FL (I2.set t sets) sets by rw [hw2]; exact (HM.out.drew k2).setI t sets); have HO2 := hid (show w2.ownsRow B 3 1 (.slice vo m2 vc2) m2 (i64s S2) by rw [hw2]; exact own_keepCh (own_keepCh HO.out hPB hIB (Ch.drew P ib none wr k2)) hPB hIB (Ch.setCell P ib none _ _ _ (.inr rfl))); have HCh2 := hid (show Ch P ib r0 w w2 by rw [hw2]; exact (HCh.out.trans (Fr.none _ _) (Ch.drew P ib none wr k2)).trans (Fr.none _ _) (Ch.setCell P ib none _ _ _ (.inr rfl))); have hB2 := HM2.out.hB; clear hw2) | (at_builtin; refine wpList_append_lies _ rfl _ _ 22 rfl B 3 i0 (.int .i64 0) 1 8 Tryd.underlying22 hi3 hz0 hz1 hz2 rfl (by decide) (.slice vo m2 vc2) m2 (i64s S2) rfl (HO2.out.alloc _) ⟨w2.heap.size, 0, none⟩ 1 1 [.int .i64 (t : Int)] rfl rfl (news_one w2 _ 3) (i64s_one [(t : Int)]) (by decide) (by unfold maxLen; omega) (by omega) (by simp; omega) (w2.heap.size + 1) (by simp) ?_; intro q3 c3 w3 o3 gr3 hl3 hlt3))
            have HO3 := hid (show w3.ownsRow B 3 1 (.slice (some ⟨q3, 0, none⟩) (m2 + 1) c3) (m2 + 1) (i64s (S2 ++ [(t : Int)])) by rw [i64s_snoc]; exact o3)
            have HM3 := hid ((HM2.out.alloc (.cells #[.int .i64 (t : Int)] 3)).grown gr3 (own_row HO2.out))
            have HCh3 := hid ((HCh2.out.trans (Fr.none _ _) (Ch.alloc P ib none w2 (.cells #[.int .i64 (t : Int)] 3))).trans HFr.out (Ch.grown gr3))
            have HFr3 := hid (show Fr w r0 (Value.slice (some ⟨q3, 0, none⟩) (m2 + 1) c3).ownBlock by
              rcases hl3 with h1 | h1
              · have h2 := HFr.out; rw [show (Value.slice vo m2 vc2).ownBlock = some q3 from h1] at h2; exact h2
              · refine .inr (.inr ⟨q3, rfl, ?_⟩); have h2 := HCh2.out.size; omega)
            have HSL3 := hid (show (S2 ++ [(t : Int)]).length = m2 + 1 by rw [List.length_append, HSL.out]; rfl)
            clear o3 gr3 hl3 hlt3
            go_roundw
            case rel => exact ⟨j + 1, m2 + 1, S2 ++ [(t : Int)], I2.set t sets, some ⟨q3, 0, none⟩, c3, by go_num, rfl, by omega, by omega, hm3, HSL3, HSI2, HO3, HM3, HC2, HCh3, HFr3⟩
            case measure => simp [intOf]; omega
        · have j3 : ¬ (j : Int) < (ln : Int) := by omega
          have HC2 := hid (HC.out.next HSI.out HL.out (by have := HLN.out; omega))
          go_wp2
          go_roundw
          case rel => exact ⟨i + 1, m2, S2, I2, vo, vc2, by go_num, rfl, by omega, hm2n, HSL, HO, HM, HC2, HCh, HFr⟩
          case measure => simp [intOf]; omega
    · have i3 : ¬ (i : Int) < (m' : Int) := by omega
      have HD := hid (HC.out.done (by have := HSL.out; omega))
      go_wp2
      go_ret
      have hq := HSL.out
      subst hq
      exact ⟨_, rfl, S, I', vo, vc, rfl, HO.out, HM.out, HD.out.1, HD.out.2, HCh.out, HFr.out⟩
end
end Go.Proofs.YteacehfihogmpaaDoor
