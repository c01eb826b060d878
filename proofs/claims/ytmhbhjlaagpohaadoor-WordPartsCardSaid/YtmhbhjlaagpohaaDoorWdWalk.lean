/- What the walk of WordParts uses: the contract of ints (package kerflaw12) at two lists that are the same; rows of numbers. -/
import Derived.Test.YtmhbhjlaagpohaaDoorWdMath
import Derived.Test.YtmhbhjlaagpohaaDoorLiveRun
import Derived.Deep.AppendSrc
namespace Go.Proofs.YtmhbhjlaagpohaaDoor
open Go.RowKit

/-- A slice of numbers, nil or not, reads as a list. -/
def RdN (w : World) (ao : Option Addr) (l : List Int) : Prop :=
  ∀ (k : Nat) (z : Int), l[k]? = some z → ∃ a : Addr, ao = some a ∧ a.block < w.heap.size ∧ w.cell? (a.add k) = some (.int .i64 z)
theorem RdN.below {w w' : World} {ao : Option Addr} {l : List Int} (h : RdN w ao l) (hb : Below w.heap.size w w') : RdN w' ao l := fun k z hk => by
  obtain ⟨a, h1, h2, h3⟩ := h k z hk
  exact ⟨a, h1, Nat.lt_of_lt_of_le h2 hb.size, (hb.cell (p := a.add k) (by rw [add_blk]; exact h2)).trans h3⟩
theorem i64s_at (l : List Int) (k : Nat) : (i64s l)[k]? = (l[k]?).map fun z => .int .i64 z := by simp [i64s]
theorem i64s_len (l : List Int) : (i64s l).length = l.length := by simp [i64s]
theorem i64s_one (l : List Int) : ∀ u ∈ i64s l, u.oneCell' = true := fun u hu => by
  unfold i64s at hu
  obtain ⟨z, _, rfl⟩ := List.mem_map.1 hu
  rfl
theorem rdn_own {B n cap : Nat} {ao : Option Addr} {xs : List Int} {w : World} (h : w.ownsRow B 3 1 (.slice ao n cap) n (i64s xs)) : RdN w ao xs := by
  intro k x hk
  have hn : xs.length = n := by have := h.1; rw [i64s_len] at this; omega
  have hkl := (List.getElem?_eq_some_iff.1 hk).1
  rcases h.2 with ⟨h', h0⟩ | ⟨q, cap', cur, h', hb, hg, hnc, hcm, hcs, htk⟩
  · omega
  · simp only [Value.slice.injEq, true_and] at h'
    obtain ⟨rfl, rfl⟩ := h'
    refine ⟨_, rfl, (h.lt q rfl).2, ?_⟩
    rw [Addr.add_lit, Nat.zero_add, h.cellAt k (by omega), i64s_at, hk]; rfl
set_option maxHeartbeats 1000000 in
theorem ints_same (ao bo : Option Addr) (n ac bc : Nat) (l : List Int) (w : World) (ha : RdN w ao l) (hb : RdN w bo l) (hn : n = l.length) (hl : n ≤ 1000000000000) :
    Calls Tryd.prog 19 #[.slice ao n ac, .slice bo n bc] w fun e w' => e = .returned (.bool true) ∧ Below w.heap.size w w' := by
  have HA := hid ha
  have HB := hid hb
  have HN := hid hn
  clear ha hb hn
  have hne : ((n : Int) != (n : Int)) = false := by simp
  go_enter Tryd.func19, Tryd.ntmps19
  go_wp2
  go_loopw [5] (fun i wr => ∃ k : Nat, k ≤ n ∧ i = .int .i64 k ∧ Below w.heap.size w wr) (fun i _ => n - (intOf i).toNat)
  case atStart => exact ⟨0, by omega, rfl, Below.refl _ _⟩
  case round =>
    obtain ⟨k, hk, rfl, hBr⟩ := hrel
    by_cases hlt : k < n
    · have hltl : k < l.length := by have := HN.out; omega
      obtain ⟨a, rfl, ha, a0⟩ := HA.out.below hBr k l[k] (List.getElem?_eq_getElem hltl)
      obtain ⟨b, rfl, hb, b0⟩ := HB.out.below hBr k l[k] (List.getElem?_eq_getElem hltl)
      obtain ⟨x0, e0⟩ : ∃ x0, x0 = l[k] := ⟨_, rfl⟩
      rw [← e0] at a0 b0
      have HBr := hid hBr
      have hxx : (x0 != x0) = false := by simp
      clear e0 hBr
      go_wp2_with fail
      go_region
      go_wp2
      go_roundw
      case rel => exact ⟨k + 1, by omega, by go_num, HBr.out.drew⟩
      case measure => simp [intOf]; omega
    · go_wp2
      go_ret
      exact ⟨rfl, hBr⟩
theorem wcat (a b : List UInt8) : (⟨a.toArray⟩ ++ ⟨b.toArray⟩ : ByteArray) = ⟨(a ++ b).toArray⟩ := by
  apply ByteArray.ext
  simp
theorem wown_slice {w : World} {B e sz m : Nat} {v : Value} {xs : List Value} (h : w.ownsRow B e sz v m xs) : ∃ vo vc, v = .slice vo m vc := by
  rcases h.2 with ⟨rfl, h0⟩ | ⟨q, qc, _, rfl, _⟩
  · exact ⟨none, 0, by rw [h0]⟩
  · exact ⟨_, qc, rfl⟩
theorem wown_bl {w w' : World} {B e sz m : Nat} {v : Value} {xs : List Value} (h : w.ownsRow B e sz v m xs) (hb : Below w.heap.size w w') : w'.ownsRow B e sz v m xs :=
  h.kept (wgrown hb) (by cases hv : v.ownBlock with
    | none => exact .inl rfl
    | some k => exact .inr (by simp))
theorem wtbs_below {w w' : World} (h : Ev.Tbs tabs w) (hb : Below w.heap.size w w') : Ev.Tbs tabs w' := fun x hx => by
  obtain ⟨c, h1, h2⟩ := h x hx
  exact ⟨c, (hb.block _ (Array.getElem?_eq_some_iff.1 h1).1).trans h1, h2⟩
theorem wbounds_nil (w : World) : Calls Tryd.prog 18 #[.string ⟨#[]⟩] w fun e w' => e = .returned (.slice none 0 0) ∧ w' = w := by
  go_enter Tryd.func18, Tryd.ntmps18
  go_wp2
  go_ret
  exact ⟨rfl, rfl⟩
theorem app_nil (w : World) (ty : TypeId) : (Builtin.append_ #[35, 35] ty #[.slice none 0 0, .slice none 0 0]).run Tryd.prog w = .ok (.slice none 0 0) w := by
  obtain ⟨i, hi, hz, hsize, hby⟩ := info_parts Tryd.info3
  have hs : Src Tryd.prog i.size 35 (.slice none 0 0) 0 [] w := Src.ofNil w Tryd.underlying35 0
  simp [Builtin.append_, run_underlying Tryd.underlying35, sizeOf, typeInfo, hi, hs.len, hs.cells]
theorem wbd_bd (t : List UInt8) : ∀ (n p : Nat), t.length - p ≤ n → ∀ x ∈ wb t p, 0 ≤ x.2 ∧ x.2 ≤ (t.length : Int)
  | n, p, hn, x, hx => by
    by_cases hlt : p < t.length
    · match n, hn with
      | 0, hn => omega
      | n + 1, hn =>
        have hb := wst t p hlt
        rw [wb_step t p hlt] at hx
        rcases List.mem_cons.1 hx with rfl | hx
        · constructor
          · show (0 : Int) ≤ ((p + wnx (t.drop p) : Nat) : Int); omega
          · show ((p + wnx (t.drop p) : Nat) : Int) ≤ _; omega
        · exact wbd_bd t n _ (by omega) x hx
    · rw [wb_end t p hlt] at hx; cases hx
theorem wtos_bd (t : List UInt8) (z : Int) (h : z ∈ wtos (wb t 0)) : 0 ≤ z ∧ z ≤ (t.length : Int) := by
  unfold wtos at h
  rcases List.mem_cons.1 h with rfl | h
  · omega
  · obtain ⟨x, hx, rfl⟩ := List.mem_map.1 h
    exact wbd_bd t _ 0 (Nat.le_refl _) x hx
theorem news_1 (w : World) (v : Value) (T : TypeId) : ∀ j u, [v][j]? = some u → (w.alloc (.cells #[v] T)).cell? ((⟨w.heap.size, 0, none⟩ : Addr).add j) = some u := fun j u hj => by
  rw [Addr.add_lit, Nat.zero_add, cell_of_row _ _ _ _ T (0, 0) (heap_alloc_new w _)]
  simpa using hj
theorem below_alN {w W : World} {o : Obj} (h : (w.alloc o).grownBy W none) : Below w.heap.size w W :=
  ⟨h.os, h.tape, h.output, by have h1 : (w.alloc o).heap.size ≤ W.heap.size := h.size; simp at h1; omega, fun b hb => (h.block b (by simp; omega) (fun e => by cases e)).trans (Below.heap_alloc w o b hb)⟩
theorem wgr_al {w W : World} {o : Obj} {g : Nat} (h : (w.alloc o).grownBy W (some g)) : w.grownBy W (some g) :=
  ⟨h.os, h.tape, h.output, by have h1 : (w.alloc o).heap.size ≤ W.heap.size := h.size; simp at h1; omega, fun b hb hne => (h.block b (by simp; omega) hne).trans (Below.heap_alloc w o b hb)⟩
theorem wbounds_nil' (s : List UInt8) (h : s = []) (w : World) : Calls Tryd.prog 18 #[.string ⟨s.toArray⟩] w fun e w' => e = .returned (.slice none 0 0) ∧ w' = w := by
  subst h; exact wbounds_nil w
theorem last_byte (s : List UInt8) (hs : s ≠ []) : s.getLast? = some (s.getD (s.length - 1) 0) := by
  have : s.length - 1 < s.length := by have := List.length_pos_iff.2 hs; omega
  rw [List.getLast?_eq_getElem?, List.getElem?_eq_getElem this]
  simp [List.getD, this]
set_option maxHeartbeats 8000000 in
set_option maxRecDepth 100000 in
theorem wparts_main (s t : List UInt8) (w : World) (hs : s.length ≤ 281474976710656) (htl : t.length ≤ 281474976710656) (hw : Ev.Tbs tabs w) (ht : TbW w) :
    Calls Tryd.prog 5 #[.string ⟨s.toArray⟩, .string ⟨t.toArray⟩] w fun e w' => e = .returned (.bool true) ∧ Below w.heap.size w w' := by
  obtain ⟨i3, hi3, hz0, hz1, hz2⟩ := info_parts Tryd.info3
  have HW := hid hw
  have HT := hid ht
  clear hw ht
  by_cases hlen : 70 < s.length + t.length
  · have hli : (70 : Int) < (s.length : Int) + (t.length : Int) := by omega
    go_enter Tryd.func5, Tryd.ntmps5
    go_wp2_with fail
    refine (lives_word w HW.out).mono ?_
    rintro e w1 ⟨rfl, be⟩
    go_wp2
    go_ret
    exact ⟨rfl, be⟩
  · have hli : ¬ (70 : Int) < (s.length : Int) + (t.length : Int) := by omega
    by_cases hse : s = []
    · have hsi : ¬ (0 : Int) < (s.length : Int) := by rw [hse]; simp
      have HS13 := hid (show s.getLast? ≠ some 13 by rw [hse]; simp)
      have HX0 := hid (show [0] = wtos (wb s 0) by rw [hse]; rfl)
      have HSE := hid hse
      have hs70 : s.length ≤ 70 := by omega
      clear hse
      go_enter Tryd.func5, Tryd.ntmps5
      go_wp2_with fail
      refine (wbounds_nil' s HSE.out w).mono ?_
      rintro e w1 ⟨rfl, hw1⟩
      obtain rfl := hw1.symm
      clear hw1
      have hap := app_nil w 35
      go_wp2_with (at_builtin; refine wpList_append_lies _ rfl _ _ 35 rfl w.heap.size 3 i3 (.int .i64 0) 1 8 Tryd.underlying35 hi3 hz0 hz1 hz2 rfl (by decide) (.slice none 0 0) 0 [] rfl (World.ownsRow_nil _ _ _ _) ⟨w.heap.size, 0, none⟩ 1 1 [.int .i64 0] rfl rfl (news_1 w _ 3) (i64s_one [0]) (by decide) (by unfold maxLen; decide) (by decide) (by simp) (w.heap.size + 1) (by simp) ?_; intro g2 c2 w2 o2 gr2 hl2 hlt2; have HO2 := hid o2; have HG2 := hid gr2; clear o2 gr2 hl2 hlt2)
      have HB2 := hid (show Below w.heap.size w w2 from below_alN HG2.out)
      rw [Nat.zero_add, List.nil_append] at HO2
      clear HG2 hap
      obtain ⟨n, hn⟩ : ∃ n : Nat, n = 1 := ⟨_, rfl⟩
      obtain ⟨X, hX⟩ : ∃ X : List Int, X = [0] := ⟨_, rfl⟩
      have en : Value.slice (some ⟨g2, 0, none⟩) 1 c2 = Value.slice (some ⟨g2, 0, none⟩) n c2 := by rw [hn]
      rw [en]
      have HO2 := hid (show w2.ownsRow w.heap.size 3 1 (.slice (some ⟨g2, 0, none⟩) n c2) n (i64s X) by rw [hn, hX]; exact HO2.out)
      have HN := hid (show n = X.length by rw [hn, hX]; rfl)
      have HX := hid (show X = wtos (wb s 0) by rw [hX]; exact HX0.out)
      have hX71 : n ≤ 72 := by omega
      have hX0 : 0 < n := by omega
      clear en hn hX HX0
      by_cases hte : t = []
      · subst hte
        go_wp2_with fail
        refine (wbounds_nil w2).mono ?_
        rintro e w3 ⟨rfl, hw3⟩
        obtain rfl := hw3.symm
        clear hw3
        have hsw := HB2.out.size
        go_wp2_with (at_builtin; refine wpList_append_lies _ rfl _ _ 35 rfl w.heap.size 3 i3 (.int .i64 0) 1 8 Tryd.underlying35 hi3 hz0 hz1 hz2 rfl (by decide) (.slice (some ⟨g2, 0, none⟩) n c2) n (i64s X) rfl (HO2.out.alloc _) ⟨w2.heap.size, 0, none⟩ 1 1 [.int .i64 ((s.length : Int) + 1)] rfl rfl (news_1 w2 _ 3) (i64s_one [_]) (by decide) (by unfold maxLen; omega) (by omega) (by simp; omega) (w2.heap.size + 1) (by simp) ?_; intro g3 c3 w3 o3 gr3 hl3 hlt3; have HO3 := hid o3; have HG3 := hid gr3; clear o3 gr3 hl3 hlt3)
        have HB3 := hid (show Below w.heap.size w w3 from HB2.out.trans ⟨HG3.out.os, HG3.out.tape, HG3.out.output, (wgr_al HG3.out).size, fun k hk => (wgr_al HG3.out).block k (by omega) (fun e => by have e' : some k = some g2 := e; have := Option.some.inj e'; have := (HO2.out.lt g2 rfl).1; omega)⟩)
        have HEQ := hid (show X ++ [(s.length : Int) + 1] = wbnds (s ++ 10 :: []) by rw [wbnds_lf s [] HS13.out, HX.out, wb_end [] 0 (by simp)]; simp [wtos])
        have HOX := hid (show w3.ownsRow w.heap.size 3 1 (.slice (some ⟨g3, 0, none⟩) (n + 1) c3) (n + 1) (i64s (X ++ [(s.length : Int) + 1])) by rw [i64s_snoc]; exact HO3.out)
        clear HO3 HG3
        go_loopw [5, 8] (fun v i wr => v = .slice (some ⟨g3, 0, none⟩) (n + 1) c3 ∧ i = .int .i64 0 ∧ wr = w3) (fun _ _ _ => 0)
        case atStart => exact ⟨rfl, rfl, rfl⟩
        case round =>
          obtain ⟨rfl, rfl, hwr⟩ := hrel
          obtain rfl := hwr.symm
          clear hwr
          have HLN := hid (show n + 1 = (wbnds (s ++ 10 :: [])).length by rw [← HEQ.out]; rw [List.length_append, HN.out]; rfl)
          have HOF := hid (show w3.ownsRow w.heap.size 3 1 (.slice (some ⟨g3, 0, none⟩) (n + 1) c3) (n + 1) (i64s (wbnds (s ++ 10 :: []))) by rw [← HEQ.out]; exact HOX.out)
          go_wp2_with fail
          rw [wcat, wcat, show s ++ [10] ++ [] = s ++ 10 :: [] by simp]
          refine (wbounds_any (s ++ 10 :: []) w3 (HT.out.below HB3.out) (by rw [List.length_append, List.length_cons]; omega)).mono ?_
          rintro e w7 ⟨v, rfl, hown, be7⟩
          rw [← HLN.out] at hown
          obtain ⟨vo, vc, rfl⟩ := wown_slice hown
          have HO4 := hid (rdn_own hown)
          have HR4 := hid ((rdn_own HOF.out).below be7)
          have HB7 := hid (HB3.out.trans (be7.mono HB3.out.size))
          clear hown be7
          go_wp2_with fail
          refine (ints_same vo (some ⟨g3, 0, none⟩) (n + 1) vc c3 _ w7 HO4.out HR4.out HLN.out (by omega)).mono ?_
          rintro e w8 ⟨rfl, be8⟩
          have HB8 := hid (HB7.out.trans (be8.mono HB7.out.size))
          clear be8
          go_wp2_with fail
          refine (lives_word w8 (wtbs_below HW.out HB8.out)).mono ?_
          rintro e w9 ⟨rfl, be9⟩
          have HB9 := hid (HB8.out.trans (be9.mono HB8.out.size))
          clear be9
          go_wp2
          go_ret
          exact ⟨rfl, HB9.out⟩
      · have htl : 0 < t.length := List.length_pos_iff.2 hte
        have HTE := hid (show wbnds t = wtos (wb t 0) from if_neg hte)
        clear hte
        go_wp2_with fail
        refine (wbounds_any t w2 (HT.out.below HB2.out) (by omega)).mono ?_
        rintro e w3 ⟨v, rfl, hown, be3⟩
        have hm71 : (wbnds t).length ≤ 72 := by rw [HTE.out]; have := wb_len t _ 0 (Nat.le_refl _); simp [wtos]; omega
        have hm0 : 0 < (wbnds t).length := by rw [HTE.out]; simp [wtos]
        obtain ⟨Y, hY⟩ : ∃ Y, Y = wbnds t := ⟨_, rfl⟩
        rw [← hY] at hown hm71 hm0 HTE
        clear hY
        obtain ⟨m, hm⟩ : ∃ m, m = Y.length := ⟨_, rfl⟩
        have HM := hid hm
        rw [← hm] at hown hm71 hm0
        clear hm
        obtain ⟨ao, ac, rfl⟩ := wown_slice hown
        have HO3 := hid hown
        have HB3 := hid (HB2.out.trans (be3.mono HB2.out.size))
        have HOW := hid (wown_bl HO2.out be3)
        have HNE := hid (show (Value.slice ao m ac).ownBlock ≠ some g2 from fun e => by have := (hown.lt g2 e).1; have := (HO2.out.lt g2 rfl).2; omega)
        have hmz : ((m : Int) == 0) = false := beq_eq_false_iff_ne.2 (by omega)
        clear hown be3 HO2
        go_wp2
        go_loopw [5, 8] (fun v i wr => ∃ (k g c : Nat), i = .int .i64 k ∧ v = .slice (some ⟨g, 0, none⟩) (n + k) c ∧ k ≤ m ∧ Hid (wr.ownsRow w.heap.size 3 1 (.slice (some ⟨g, 0, none⟩) (n + k) c) (n + k) (i64s (X ++ (Y.take k).map fun z => z + (s.length : Int) + 1))) ∧ Hid (wr.ownsRow w2.heap.size 3 1 (.slice ao m ac) m (i64s Y)) ∧ Hid ((Value.slice ao m ac).ownBlock ≠ some g) ∧ Hid (Below w.heap.size w wr)) (fun _ i _ => m - (intOf i).toNat)
        case atStart => exact ⟨0, g2, c2, rfl, rfl, Nat.zero_le _, by simpa [Hid] using HOW.out, HO3, HNE, HB3⟩
        case round =>
          obtain ⟨k, g, c, rfl, rfl, hk, HW8, HM8, HN8, HB8⟩ := hrel
          clear HOW HO3 HNE HB3
          by_cases hkm : k < m
          · have hki : (k : Int) < (m : Int) := by omega
            have hkl : k < Y.length := by have := HM.out; omega
            obtain ⟨a, rfl, hab, a0⟩ := rdn_own HM8.out k Y[k] (List.getElem?_eq_getElem hkl)
            obtain ⟨z0, hz0'⟩ : ∃ z, z = Y[k] := ⟨_, rfl⟩
            have hzb : 0 ≤ z0 ∧ z0 ≤ (t.length : Int) := by rw [hz0']; exact wtos_bd t _ (by rw [← HTE.out]; exact List.getElem_mem hkl)
            rw [← hz0'] at a0
            have HSN := hid (show i64s (X ++ (Y.take (k + 1)).map fun z => z + (s.length : Int) + 1) = i64s (X ++ (Y.take k).map fun z => z + (s.length : Int) + 1) ++ [.int .i64 (z0 + (s.length : Int) + 1)] by
              rw [List.take_succ_eq_append_getElem hkl, ← hz0', List.map_append, ← List.append_assoc]
              exact i64s_snoc _ _)
            clear hz0'
            have hbw := HB8.out.size
            have ez : IntKind.i64.wrap (z0 + (s.length : Int)) = z0 + (s.length : Int) := by rw [IntKind.wrap_i64]; omega
            have ez2 : IntKind.i64.wrap (z0 + (s.length : Int) + 1) = z0 + (s.length : Int) + 1 := by rw [IntKind.wrap_i64]; omega
            obtain ⟨hzb1, hzb2⟩ := hzb
            go_wp2_with (at_builtin; refine wpList_append_lies _ rfl _ _ 35 rfl w.heap.size 3 i3 (.int .i64 0) 1 8 Tryd.underlying35 hi3 hz0 hz1 hz2 rfl (by decide) (.slice (some ⟨g, 0, none⟩) (n + k) c) (n + k) (i64s (X ++ (Y.take k).map fun z => z + (s.length : Int) + 1)) rfl (HW8.out.alloc _) ⟨wr.heap.size, 0, none⟩ 1 1 [.int .i64 (z0 + (s.length : Int) + 1)] rfl rfl (news_1 wr _ 3) (i64s_one [_]) (by decide) (by unfold maxLen; omega) (by omega) (by simp; omega) (wr.heap.size + 1) (by simp) ?_; intro g8 c8 w8 o8 gr8 hl8 hlt8; have HO8 := hid o8; have HG8 := hid gr8; have HL8 := hid hl8; clear o8 gr8 hl8 hlt8)
            have HB9 := hid (show Below w.heap.size w w8 from HB8.out.trans ⟨HG8.out.os, HG8.out.tape, HG8.out.output, (wgr_al HG8.out).size, fun b hb => (wgr_al HG8.out).block b (by omega) (fun e => by have e' : some b = some g := e; have := Option.some.inj e'; have := (HW8.out.lt g rfl).1; omega)⟩)
            have HM9 := hid (HM8.out.kept (wgr_al HG8.out) (.inr HN8.out))
            have HN9 := hid (show (Value.slice (some a) m ac).ownBlock ≠ some g8 from fun e => by
              rcases HL8.out with h | h
              · exact HN8.out (e.trans h.symm)
              · have := (HM8.out.lt g8 e).2; omega)
            rw [← HSN.out] at HO8
            go_roundw
            case rel => exact ⟨k + 1, g8, c8, by go_num, by rw [Nat.add_assoc], by omega, by rw [← Nat.add_assoc]; exact HO8, HM9, HN9, HB9⟩
            case measure => simp [intOf]; omega
          · have hki : ¬ (k : Int) < (m : Int) := by omega
            obtain rfl : k = m := by omega
            have HEQ := hid (show X ++ Y.map (fun z => z + (s.length : Int) + 1) = wbnds (s ++ 10 :: t) by
              rw [wbnds_lf s t HS13.out, HX.out, HTE.out]
              unfold wtos
              rw [List.map_cons, List.map_map]
              congr 2
              · omega
              · apply List.map_congr_left
                intro x _
                show x.2 + (s.length : Int) + 1 = x.2 + ((s.length + 1 : Nat) : Int)
                omega)
            have HOX := hid (show wr.ownsRow w.heap.size 3 1 (.slice (some ⟨g, 0, none⟩) (n + k) c) (n + k) (i64s (X ++ Y.map (fun z => z + (s.length : Int) + 1))) by
              have h := HW8.out
              rw [List.take_of_length_le (by have := HM.out; omega)] at h
              exact h)
            have HLN := hid (show n + k = (wbnds (s ++ 10 :: t)).length by rw [← HEQ.out]; rw [List.length_append, List.length_map, HN.out, HM.out])
            have HOF := hid (show wr.ownsRow w.heap.size 3 1 (.slice (some ⟨g, 0, none⟩) (n + k) c) (n + k) (i64s (wbnds (s ++ 10 :: t))) by rw [← HEQ.out]; exact HOX.out)
            go_wp2_with fail
            rw [wcat, wcat, show s ++ [10] ++ t = s ++ 10 :: t by simp]
            refine (wbounds_any (s ++ 10 :: t) wr (HT.out.below HB8.out) (by rw [List.length_append, List.length_cons]; omega)).mono ?_
            rintro e w7 ⟨v, rfl, hown, be7⟩
            rw [← HLN.out] at hown
            obtain ⟨vo, vc, rfl⟩ := wown_slice hown
            have HO4 := hid (rdn_own hown)
            have HR4 := hid ((rdn_own HOF.out).below be7)
            have HB7 := hid (HB8.out.trans (be7.mono HB8.out.size))
            clear hown be7
            go_wp2_with fail
            refine (ints_same vo (some ⟨g, 0, none⟩) (n + k) vc c _ w7 HO4.out HR4.out HLN.out (by omega)).mono ?_
            rintro e w8 ⟨rfl, be8⟩
            have HB8 := hid (HB7.out.trans (be8.mono HB7.out.size))
            clear be8
            go_wp2_with fail
            refine (lives_word w8 (wtbs_below HW.out HB8.out)).mono ?_
            rintro e w9 ⟨rfl, be9⟩
            have HB9 := hid (HB8.out.trans (be9.mono HB8.out.size))
            clear be9
            go_wp2
            go_ret
            exact ⟨rfl, HB9.out⟩
    · have hsl : 0 < s.length := List.length_pos_iff.2 hse
      have hsi : (0 : Int) < (s.length : Int) := by omega
      have hsz : s.length - 1 < (⟨s.toArray⟩ : ByteArray).size := by show s.length - 1 < s.toArray.size; simp; omega
      have hb0 := byt_eq s (s.length - 1) hsz
      have hlb := last_byte s hse
      have HWE := hid (show wbnds s = wtos (wb s 0) from if_neg hse)
      have hs70 : s.length ≤ 70 := by omega
      by_cases h13 : s.getLast? = some 13
      · have hq : ((((⟨s.toArray⟩ : ByteArray)[s.length - 1]'hsz).toNat : Int) == 13) = true := by
          rw [hb0]
          unfold byt
          rw [h13] at hlb
          rw [← Option.some.inj hlb]
          rfl
        clear hb0 hlb h13
        go_enter Tryd.func5, Tryd.ntmps5
        go_wp2_with fail
        refine (lives_word w HW.out).mono ?_
        rintro e w1 ⟨rfl, be⟩
        go_wp2
        go_ret
        exact ⟨rfl, be⟩
      · have hq : ((((⟨s.toArray⟩ : ByteArray)[s.length - 1]'hsz).toNat : Int) == 13) = false := by
          rw [hb0]
          refine beq_eq_false_iff_ne.2 fun e => h13 ?_
          rw [hlb]
          unfold byt at e
          exact congrArg some (UInt8.toNat_inj.1 (show (s.getD (s.length - 1) 0).toNat = (13 : UInt8).toNat by have h9 : (13 : UInt8).toNat = 13 := rfl; omega))
        have HS13 := hid h13
        clear hb0 hlb h13 hse
        go_enter Tryd.func5, Tryd.ntmps5
        go_wp2_with fail
        refine (wbounds_any s w HT.out (by omega)).mono ?_
        rintro e w1 ⟨v, rfl, hown, be1⟩
        rw [HWE.out] at hown
        have hX71 : (wtos (wb s 0)).length ≤ 72 := by have := wb_len s _ 0 (Nat.le_refl _); simp [wtos]; omega
        have hX0 : 0 < (wtos (wb s 0)).length := by simp [wtos]
        obtain ⟨X, hX⟩ : ∃ X, X = wtos (wb s 0) := ⟨_, rfl⟩
        have HX := hid hX
        rw [← hX] at hown hX71 hX0
        clear hX
        obtain ⟨n, hn⟩ : ∃ n, n = X.length := ⟨_, rfl⟩
        have HN := hid hn
        rw [← hn] at hown hX71 hX0
        clear hn
        obtain ⟨g1, c1, rfl⟩ : ∃ g c, v = .slice (some ⟨g, 0, none⟩) n c := by
          obtain ⟨j, rfl⟩ : ∃ j, n = j + 1 := ⟨n - 1, by omega⟩
          exact ownsRow_succ hown
        have HO1 := hid hown
        have HB1 := hid be1
        have hs1 := be1.size
        have hnz : ((n : Int) == 0) = false := beq_eq_false_iff_ne.2 (by omega)
        clear hown be1
        go_wp2_with (at_builtin; refine wpList_append_lies _ rfl _ _ 35 rfl w.heap.size 3 i3 (.int .i64 0) 1 8 Tryd.underlying35 hi3 hz0 hz1 hz2 rfl (by decide) (.slice none 0 0) 0 [] rfl (World.ownsRow_nil _ _ _ _) ⟨g1, 0, none⟩ n c1 (i64s X) rfl (by rw [i64s_len, HN.out, Nat.mul_one]) (fun j x hj => by rw [Addr.add_lit, Nat.zero_add]; have hjl : j < n * 1 := (by have := (List.getElem?_eq_some_iff.1 hj).1; rw [i64s_len, ← HN.out] at this; omega); rw [HO1.out.cellAt j hjl]; exact hj) (i64s_one X) hX0 (by unfold maxLen; omega) (by omega) (by omega) w1.heap.size rfl ?_; intro g2 c2 w2 o2 gr2 hl2 hlt2; have HO2 := hid o2; have HG2 := hid gr2; clear o2 gr2 hl2 hlt2)
        have HB2 := hid (show Below w.heap.size w w2 from HB1.out.trans ⟨HG2.out.os, HG2.out.tape, HG2.out.output, HG2.out.size, fun k hk => HG2.out.block k (by omega) (fun e => by cases e)⟩)
        rw [Nat.zero_add, List.nil_append] at HO2
        clear HG2 HO1
        by_cases hte : t = []
        · subst hte
          go_wp2_with fail
          refine (wbounds_nil w2).mono ?_
          rintro e w3 ⟨rfl, hw3⟩
          obtain rfl := hw3.symm
          clear hw3
          have hsw := HB2.out.size
          go_wp2_with (at_builtin; refine wpList_append_lies _ rfl _ _ 35 rfl w.heap.size 3 i3 (.int .i64 0) 1 8 Tryd.underlying35 hi3 hz0 hz1 hz2 rfl (by decide) (.slice (some ⟨g2, 0, none⟩) n c2) n (i64s X) rfl (HO2.out.alloc _) ⟨w2.heap.size, 0, none⟩ 1 1 [.int .i64 ((s.length : Int) + 1)] rfl rfl (news_1 w2 _ 3) (i64s_one [_]) (by decide) (by unfold maxLen; omega) (by omega) (by simp; omega) (w2.heap.size + 1) (by simp) ?_; intro g3 c3 w3 o3 gr3 hl3 hlt3; have HO3 := hid o3; have HG3 := hid gr3; clear o3 gr3 hl3 hlt3)
          have HB3 := hid (show Below w.heap.size w w3 from HB2.out.trans ⟨HG3.out.os, HG3.out.tape, HG3.out.output, (wgr_al HG3.out).size, fun k hk => (wgr_al HG3.out).block k (by omega) (fun e => by have e' : some k = some g2 := e; have := Option.some.inj e'; have := (HO2.out.lt g2 rfl).1; omega)⟩)
          have HEQ := hid (show X ++ [(s.length : Int) + 1] = wbnds (s ++ 10 :: []) by rw [wbnds_lf s [] HS13.out, HX.out, wb_end [] 0 (by simp)]; simp [wtos])
          have HOX := hid (show w3.ownsRow w.heap.size 3 1 (.slice (some ⟨g3, 0, none⟩) (n + 1) c3) (n + 1) (i64s (X ++ [(s.length : Int) + 1])) by rw [i64s_snoc]; exact HO3.out)
          clear HO3 HG3
          go_loopw [5, 8] (fun v i wr => v = .slice (some ⟨g3, 0, none⟩) (n + 1) c3 ∧ i = .int .i64 0 ∧ wr = w3) (fun _ _ _ => 0)
          case atStart => exact ⟨rfl, rfl, rfl⟩
          case round =>
            obtain ⟨rfl, rfl, hwr⟩ := hrel
            obtain rfl := hwr.symm
            clear hwr
            have HLN := hid (show n + 1 = (wbnds (s ++ 10 :: [])).length by rw [← HEQ.out]; rw [List.length_append, HN.out]; rfl)
            have HOF := hid (show w3.ownsRow w.heap.size 3 1 (.slice (some ⟨g3, 0, none⟩) (n + 1) c3) (n + 1) (i64s (wbnds (s ++ 10 :: []))) by rw [← HEQ.out]; exact HOX.out)
            go_wp2_with fail
            rw [wcat, wcat, show s ++ [10] ++ [] = s ++ 10 :: [] by simp]
            refine (wbounds_any (s ++ 10 :: []) w3 (HT.out.below HB3.out) (by rw [List.length_append, List.length_cons]; omega)).mono ?_
            rintro e w7 ⟨v, rfl, hown, be7⟩
            rw [← HLN.out] at hown
            obtain ⟨vo, vc, rfl⟩ := wown_slice hown
            have HO4 := hid (rdn_own hown)
            have HR4 := hid ((rdn_own HOF.out).below be7)
            have HB7 := hid (HB3.out.trans (be7.mono HB3.out.size))
            clear hown be7
            go_wp2_with fail
            refine (ints_same vo (some ⟨g3, 0, none⟩) (n + 1) vc c3 _ w7 HO4.out HR4.out HLN.out (by omega)).mono ?_
            rintro e w8 ⟨rfl, be8⟩
            have HB8 := hid (HB7.out.trans (be8.mono HB7.out.size))
            clear be8
            go_wp2_with fail
            refine (lives_word w8 (wtbs_below HW.out HB8.out)).mono ?_
            rintro e w9 ⟨rfl, be9⟩
            have HB9 := hid (HB8.out.trans (be9.mono HB8.out.size))
            clear be9
            go_wp2
            go_ret
            exact ⟨rfl, HB9.out⟩
        · have htl : 0 < t.length := List.length_pos_iff.2 hte
          have HTE := hid (show wbnds t = wtos (wb t 0) from if_neg hte)
          clear hte
          go_wp2_with fail
          refine (wbounds_any t w2 (HT.out.below HB2.out) (by omega)).mono ?_
          rintro e w3 ⟨v, rfl, hown, be3⟩
          have hm71 : (wbnds t).length ≤ 72 := by rw [HTE.out]; have := wb_len t _ 0 (Nat.le_refl _); simp [wtos]; omega
          have hm0 : 0 < (wbnds t).length := by rw [HTE.out]; simp [wtos]
          obtain ⟨Y, hY⟩ : ∃ Y, Y = wbnds t := ⟨_, rfl⟩
          rw [← hY] at hown hm71 hm0 HTE
          clear hY
          obtain ⟨m, hm⟩ : ∃ m, m = Y.length := ⟨_, rfl⟩
          have HM := hid hm
          rw [← hm] at hown hm71 hm0
          clear hm
          obtain ⟨ao, ac, rfl⟩ := wown_slice hown
          have HO3 := hid hown
          have HB3 := hid (HB2.out.trans (be3.mono HB2.out.size))
          have HOW := hid (wown_bl HO2.out be3)
          have HNE := hid (show (Value.slice ao m ac).ownBlock ≠ some g2 from fun e => by have := (hown.lt g2 e).1; have := (HO2.out.lt g2 rfl).2; omega)
          have hmz : ((m : Int) == 0) = false := beq_eq_false_iff_ne.2 (by omega)
          clear hown be3 HO2
          go_wp2
          go_loopw [5, 8] (fun v i wr => ∃ (k g c : Nat), i = .int .i64 k ∧ v = .slice (some ⟨g, 0, none⟩) (n + k) c ∧ k ≤ m ∧ Hid (wr.ownsRow w.heap.size 3 1 (.slice (some ⟨g, 0, none⟩) (n + k) c) (n + k) (i64s (X ++ (Y.take k).map fun z => z + (s.length : Int) + 1))) ∧ Hid (wr.ownsRow w2.heap.size 3 1 (.slice ao m ac) m (i64s Y)) ∧ Hid ((Value.slice ao m ac).ownBlock ≠ some g) ∧ Hid (Below w.heap.size w wr)) (fun _ i _ => m - (intOf i).toNat)
          case atStart => exact ⟨0, g2, c2, rfl, rfl, Nat.zero_le _, by simpa [Hid] using HOW.out, HO3, HNE, HB3⟩
          case round =>
            obtain ⟨k, g, c, rfl, rfl, hk, HW8, HM8, HN8, HB8⟩ := hrel
            clear HOW HO3 HNE HB3
            by_cases hkm : k < m
            · have hki : (k : Int) < (m : Int) := by omega
              have hkl : k < Y.length := by have := HM.out; omega
              obtain ⟨a, rfl, hab, a0⟩ := rdn_own HM8.out k Y[k] (List.getElem?_eq_getElem hkl)
              obtain ⟨z0, hz0'⟩ : ∃ z, z = Y[k] := ⟨_, rfl⟩
              have hzb : 0 ≤ z0 ∧ z0 ≤ (t.length : Int) := by rw [hz0']; exact wtos_bd t _ (by rw [← HTE.out]; exact List.getElem_mem hkl)
              rw [← hz0'] at a0
              have HSN := hid (show i64s (X ++ (Y.take (k + 1)).map fun z => z + (s.length : Int) + 1) = i64s (X ++ (Y.take k).map fun z => z + (s.length : Int) + 1) ++ [.int .i64 (z0 + (s.length : Int) + 1)] by
                rw [List.take_succ_eq_append_getElem hkl, ← hz0', List.map_append, ← List.append_assoc]
                exact i64s_snoc _ _)
              clear hz0'
              have hbw := HB8.out.size
              have ez : IntKind.i64.wrap (z0 + (s.length : Int)) = z0 + (s.length : Int) := by rw [IntKind.wrap_i64]; omega
              have ez2 : IntKind.i64.wrap (z0 + (s.length : Int) + 1) = z0 + (s.length : Int) + 1 := by rw [IntKind.wrap_i64]; omega
              obtain ⟨hzb1, hzb2⟩ := hzb
              go_wp2_with (at_builtin; refine wpList_append_lies _ rfl _ _ 35 rfl w.heap.size 3 i3 (.int .i64 0) 1 8 Tryd.underlying35 hi3 hz0 hz1 hz2 rfl (by decide) (.slice (some ⟨g, 0, none⟩) (n + k) c) (n + k) (i64s (X ++ (Y.take k).map fun z => z + (s.length : Int) + 1)) rfl (HW8.out.alloc _) ⟨wr.heap.size, 0, none⟩ 1 1 [.int .i64 (z0 + (s.length : Int) + 1)] rfl rfl (news_1 wr _ 3) (i64s_one [_]) (by decide) (by unfold maxLen; omega) (by omega) (by simp; omega) (wr.heap.size + 1) (by simp) ?_; intro g8 c8 w8 o8 gr8 hl8 hlt8; have HO8 := hid o8; have HG8 := hid gr8; have HL8 := hid hl8; clear o8 gr8 hl8 hlt8)
              have HB9 := hid (show Below w.heap.size w w8 from HB8.out.trans ⟨HG8.out.os, HG8.out.tape, HG8.out.output, (wgr_al HG8.out).size, fun b hb => (wgr_al HG8.out).block b (by omega) (fun e => by have e' : some b = some g := e; have := Option.some.inj e'; have := (HW8.out.lt g rfl).1; omega)⟩)
              have HM9 := hid (HM8.out.kept (wgr_al HG8.out) (.inr HN8.out))
              have HN9 := hid (show (Value.slice (some a) m ac).ownBlock ≠ some g8 from fun e => by
                rcases HL8.out with h | h
                · exact HN8.out (e.trans h.symm)
                · have := (HM8.out.lt g8 e).2; omega)
              rw [← HSN.out] at HO8
              go_roundw
              case rel => exact ⟨k + 1, g8, c8, by go_num, by rw [Nat.add_assoc], by omega, by rw [← Nat.add_assoc]; exact HO8, HM9, HN9, HB9⟩
              case measure => simp [intOf]; omega
            · have hki : ¬ (k : Int) < (m : Int) := by omega
              obtain rfl : k = m := by omega
              have HEQ := hid (show X ++ Y.map (fun z => z + (s.length : Int) + 1) = wbnds (s ++ 10 :: t) by
                rw [wbnds_lf s t HS13.out, HX.out, HTE.out]
                unfold wtos
                rw [List.map_cons, List.map_map]
                congr 2
                · omega
                · apply List.map_congr_left
                  intro x _
                  show x.2 + (s.length : Int) + 1 = x.2 + ((s.length + 1 : Nat) : Int)
                  omega)
              have HOX := hid (show wr.ownsRow w.heap.size 3 1 (.slice (some ⟨g, 0, none⟩) (n + k) c) (n + k) (i64s (X ++ Y.map (fun z => z + (s.length : Int) + 1))) by
                have h := HW8.out
                rw [List.take_of_length_le (by have := HM.out; omega)] at h
                exact h)
              have HLN := hid (show n + k = (wbnds (s ++ 10 :: t)).length by rw [← HEQ.out]; rw [List.length_append, List.length_map, HN.out, HM.out])
              have HOF := hid (show wr.ownsRow w.heap.size 3 1 (.slice (some ⟨g, 0, none⟩) (n + k) c) (n + k) (i64s (wbnds (s ++ 10 :: t))) by rw [← HEQ.out]; exact HOX.out)
              go_wp2_with fail
              rw [wcat, wcat, show s ++ [10] ++ t = s ++ 10 :: t by simp]
              refine (wbounds_any (s ++ 10 :: t) wr (HT.out.below HB8.out) (by rw [List.length_append, List.length_cons]; omega)).mono ?_
              rintro e w7 ⟨v, rfl, hown, be7⟩
              rw [← HLN.out] at hown
              obtain ⟨vo, vc, rfl⟩ := wown_slice hown
              have HO4 := hid (rdn_own hown)
              have HR4 := hid ((rdn_own HOF.out).below be7)
              have HB7 := hid (HB8.out.trans (be7.mono HB8.out.size))
              clear hown be7
              go_wp2_with fail
              refine (ints_same vo (some ⟨g, 0, none⟩) (n + k) vc c _ w7 HO4.out HR4.out HLN.out (by omega)).mono ?_
              rintro e w8 ⟨rfl, be8⟩
              have HB8 := hid (HB7.out.trans (be8.mono HB7.out.size))
              clear be8
              go_wp2_with fail
              refine (lives_word w8 (wtbs_below HW.out HB8.out)).mono ?_
              rintro e w9 ⟨rfl, be9⟩
              have HB9 := hid (HB8.out.trans (be9.mono HB8.out.size))
              clear be9
              go_wp2
              go_ret
              exact ⟨rfl, HB9.out⟩
end Go.Proofs.YtmhbhjlaagpohaaDoor
