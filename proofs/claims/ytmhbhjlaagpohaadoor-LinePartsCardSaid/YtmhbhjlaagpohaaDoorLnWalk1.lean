/- LineParts: the walk. -/
import Derived.Test.YtmhbhjlaagpohaaDoorLnLive
import Derived.Test.YtmhbhjlaagpohaaDoorLnParts
import Derived.Test.YtmhbhjlaagpohaaDoorMix
namespace Go.Proofs.YtmhbhjlaagpohaaDoor
open Ev Go.RowKit

theorem cat_eq (a b : List UInt8) : (⟨a.toArray⟩ ++ ⟨b.toArray⟩ : ByteArray) = ⟨(a ++ b).toArray⟩ := by
  apply ByteArray.ext
  simp
theorem own_slice {w : World} {B e sz m : Nat} {v : Value} {xs : List Value} (h : w.ownsRow B e sz v m xs) : ∃ vo vc, v = .slice vo m vc := by
  rcases h.2 with ⟨rfl, h0⟩ | ⟨q, qc, _, rfl, _⟩
  · exact ⟨none, 0, by rw [h0]⟩
  · exact ⟨_, qc, rfl⟩
theorem chs_bd (t : List UInt8) (ct : List (Int × Bool)) (h : ct = chs t 0) (k : Nat) (hk : k < ct.length) : -9223372036854775808 ≤ ct[k].1 ∧ (t.length ≤ 100 → ct[k].1 ≤ 100000) := by
  have key : ∀ (n p : Nat), t.length - p ≤ n → ∀ x ∈ chs t p, 0 ≤ x.1 ∧ x.1 ≤ (t.length : Int) := by
    intro n
    induction n with
    | zero => intro p hp x hx; rw [chs_end t p (by omega)] at hx; cases hx
    | succ n ih =>
      intro p hp x hx
      by_cases hlt : p < t.length
      · have hb := onw_bd t p hlt
        rw [chs_step t p hlt] at hx
        rcases List.mem_cons.1 hx with rfl | hx
        · constructor
          · show (0 : Int) ≤ ((onw t p p : Nat) : Int); omega
          · show ((onw t p p : Nat) : Int) ≤ _; omega
        · exact ih _ (by omega) x hx
      · rw [chs_end t p hlt] at hx; cases hx
  have := key _ 0 (Nat.le_refl _) ct[k] (by rw [← h]; exact List.getElem_mem hk)
  exact ⟨by omega, fun _ => by omega⟩
theorem own_blk {w : World} {B e sz m cap : Nat} {a : Addr} {xs : List Value} (h : w.ownsRow B e sz (.slice (some a) m cap) m xs) (_ : 0 < m) : (Value.slice (some a) m cap).ownBlock = some a.block := by
  rcases h.2 with ⟨h', h0⟩ | ⟨q, qc, _, h', _⟩
  · cases h'
  · cases h'; rfl
theorem own_bl {w w' : World} {B e sz m : Nat} {v : Value} {xs : List Value} (h : w.ownsRow B e sz v m xs) (hb : Below w.heap.size w w') : w'.ownsRow B e sz v m xs :=
  h.kept (grown_below hb) (by cases hv : v.ownBlock with
    | none => exact .inl rfl
    | some k => exact .inr (by simp))
set_option maxHeartbeats 8000000 in
set_option maxRecDepth 100000 in
theorem parts_main (s t : List UInt8) (bb : Bool) (w : World) (hs : s.length ≤ 281474976710656) (htl : t.length ≤ 281474976710656) (hw : Tbs tabs w) (ht : Tb w) :
    Calls Tryd.prog 6 #[.string ⟨s.toArray⟩, .string ⟨t.toArray⟩, .bool bb] w fun e w' => e = .returned (.bool true) ∧ Below w.heap.size w w' := by
  obtain ⟨i42, hi42, hz0, hz1, hz2⟩ := info_parts Tryd.info42
  have HW := hid hw
  have HT := hid ht
  clear hw ht
  by_cases hlen : 60 < s.length + t.length
  · have hli : (60 : Int) < (s.length : Int) + (t.length : Int) := by omega
    go_enter Tryd.func6, Tryd.ntmps6
    go_wp2_with fail
    refine (live14 w HW.out HT.out).mono ?_
    rintro e w1 ⟨rfl, be⟩
    go_wp2
    go_ret
    exact ⟨rfl, be⟩
  · have hli : ¬ (60 : Int) < (s.length : Int) + (t.length : Int) := by omega
    obtain ⟨x, hx⟩ : ∃ x : List UInt8, x = if bb then [226, 128, 168] else [10] := ⟨_, rfl⟩
    have hP : ∃ c q, Prt (s ++ x) t c q := by
      rw [hx]
      cases bb
      · exact ⟨3, _, prt_lf s t⟩
      · exact ⟨1, _, prt_bk s t⟩
    have hxl : x.length ≤ 3 := by rw [hx]; cases bb <;> decide
    have HX := hid hx
    go_enter Tryd.func6, Tryd.ntmps6
    cases bb with
    | true =>
      clear HX hP hxl hx
      go_wp2_with fail
      rw [show (({ data := s.toArray } ++ { data := #[226, 128, 168] } : ByteArray)) = ⟨(s ++ [226, 128, 168]).toArray⟩ from cat_eq s [226, 128, 168]]
      obtain ⟨u, hu⟩ : ∃ u, u = s ++ [226, 128, 168] := ⟨_, rfl⟩
      have hul : u.length ≤ 63 := by rw [hu, List.length_append]; show s.length + 3 ≤ 63; omega
      have HPR := hid (show Prt u t 1 (bk s) by rw [hu]; exact prt_bk s t)
      have HUN := hid (show u ≠ [] by rw [hu]; simp)
      rw [← hu]
      clear hu
      have HA := hid (below_box (w := w) (o := .cells #[] 42))
      have HOE := hid (show (w.alloc (.cells #[] 42)).ownsRow w.heap.size 42 2 (.slice (some ⟨w.heap.size, 0, none⟩) 0 0) 0 [] from World.ownsRow_lit w #[] 0 (Nat.le_refl _) (by decide) (by simp))
      refine (chances_any u _ (HT.out.below HA.out) (by omega)).mono ?_
      rintro e w1 ⟨v, rfl, hown, be1⟩
      have hcl := chs_len u _ 0 (Nat.le_refl _)
      have hcn : 0 < (chs u 0).length := by rw [chs_step u 0 (List.length_pos_iff.2 HUN.out)]; simp
      obtain ⟨cu, hcu⟩ : ∃ cu, cu = chs u 0 := ⟨_, rfl⟩
      have HCU := hid hcu
      rw [← hcu] at hown hcl hcn
      clear hcu
      obtain ⟨cn, hcnn⟩ : ∃ cn, cn = cu.length := ⟨_, rfl⟩
      have HCN := hid hcnn
      rw [← hcnn] at hown hcl hcn
      clear hcnn
      obtain ⟨g1, c1, rfl⟩ : ∃ g c, v = .slice (some ⟨g, 0, none⟩) cn c := by
        obtain ⟨j, rfl⟩ : ∃ j, cn = j + 1 := ⟨cn - 1, by omega⟩
        exact ownsRow_succ hown
      have HO1 := hid hown
      have HB1 := hid (HA.out.trans (be1.mono HA.out.size))
      have HOE1 := hid (own_bl HOE.out be1)
      have hs1 : w.heap.size + 1 ≤ w1.heap.size := by have := be1.size; simpa using this
      clear hown be1 HOE
      go_wp2_with (at_builtin; refine wpList_append_lies _ rfl _ _ 39 rfl w.heap.size 42 i42 (.agg #[.int .i64 0, .bool false]) 2 16 Tryd.underlying39 hi42 hz0 hz1 hz2 rfl (by decide) (.slice (some ⟨w.heap.size, 0, none⟩) 0 0) 0 [] rfl HOE1.out ⟨g1, 0, none⟩ cn c1 (chc cu) rfl (by rw [chc_len, HCN.out]) (fun j x hj => by rw [Addr.add_lit, Nat.zero_add]; have hjl : j < cn * 2 := (by have := (List.getElem?_eq_some_iff.1 hj).1; rw [chc_len, ← HCN.out] at this; exact this); rw [HO1.out.cellAt j hjl]; exact hj) (chc_one cu) hcn (by unfold maxLen; omega) (by omega) (by omega) w1.heap.size rfl ?_; intro g2 c2 w2 o2 gr2 hl2 hlt2; have HO2 := hid o2; have HG2 := hid gr2; have HLT2 := hid hlt2; clear o2 gr2 hl2 hlt2)
      have HB2 := hid (show Below w.heap.size w w2 from HB1.out.trans ⟨HG2.out.os, HG2.out.tape, HG2.out.output, HG2.out.size, fun k hk => HG2.out.block k (by omega) (fun e => by have e' : some k = some w.heap.size := e; have := Option.some.inj e'; omega)⟩)
      rw [Nat.zero_add, List.nil_append] at HO2
      clear HG2 HOE1 HO1
      refine (chances_any t w2 (HT.out.below HB2.out) (by omega)).mono ?_
      rintro e w3 ⟨v, rfl, hown, be3⟩
      obtain ⟨ct, hct⟩ : ∃ ct, ct = chs t 0 := ⟨_, rfl⟩
      have HCT := hid hct
      have htl2 := chs_len t _ 0 (Nat.le_refl _)
      rw [← hct] at hown htl2
      clear hct
      obtain ⟨m, hm⟩ : ∃ m, m = ct.length := ⟨_, rfl⟩
      have HM := hid hm
      rw [← hm] at hown htl2
      clear hm
      obtain ⟨ao, ac, rfl⟩ := own_slice hown
      have HO3 := hid hown
      have HB3 := hid (HB2.out.trans (be3.mono HB2.out.size))
      have HOW := hid (own_bl HO2.out be3)
      have HNE := hid (show (Value.slice ao m ac).ownBlock ≠ some g2 from fun e => by have := (hown.lt g2 e).1; have := HLT2.out; omega)
      have hs3 := be3.size
      clear hown be3 HO2
      go_wp2
      go_loopw [8, 10] (fun v i wr => ∃ (k g c : Nat), i = .int .i64 k ∧ v = .slice (some ⟨g, 0, none⟩) (cn + k) c ∧ k ≤ m ∧ Hid (wr.ownsRow w.heap.size 42 2 (.slice (some ⟨g, 0, none⟩) (cn + k) c) (cn + k) (chc (cu ++ shf u.length (ct.take k)))) ∧ Hid (wr.ownsRow w2.heap.size 42 2 (.slice ao m ac) m (chc ct)) ∧ Hid ((Value.slice ao m ac).ownBlock ≠ some g) ∧ Hid (Below w.heap.size w wr)) (fun _ i _ => m - (intOf i).toNat)
      case atStart => exact ⟨0, g2, c2, rfl, rfl, Nat.zero_le _, by simpa [Hid, shf] using HOW.out, HO3, HNE, HB3⟩
      case round =>
        obtain ⟨k, g, c, rfl, rfl, hk, HW8, HM8, HN8, HB8⟩ := hrel
        clear HOW HO3 HNE HB3
        by_cases hkm : k < m
        · have hki : (k : Int) < (m : Int) := by omega
          have hkl : k < ct.length := by have := HM.out; omega
          obtain ⟨a, rfl, hab, a0, a1⟩ := rdc_own HM8.out k ct[k] (List.getElem?_eq_getElem hkl)
          have HNB := hid (show some a.block ≠ some g from fun e => HN8.out (by rw [← e]; exact own_blk HM8.out (by omega)))
          obtain ⟨z0, hz0'⟩ : ∃ z, z = ct[k].1 := ⟨_, rfl⟩
          obtain ⟨z1, hz1'⟩ : ∃ z, z = ct[k].2 := ⟨_, rfl⟩
          have HZB := hid (show z0 + (u.length : Int) = z0 + (u.length : Int) ∧ -9223372036854775808 ≤ z0 ∧ z0 ≤ 100000 from ⟨rfl, by rw [hz0']; exact (chs_bd t ct HCT.out k hkl).1, by rw [hz0']; exact (chs_bd t ct HCT.out k hkl).2 (by omega)⟩)
          have hzb1 := HZB.out.2.1
          have hzb2 := HZB.out.2.2
          rw [← hz0'] at a0
          rw [← hz1'] at a1
          have HSN := hid (show chc (cu ++ shf u.length (ct.take (k + 1))) = chc (cu ++ shf u.length (ct.take k)) ++ [.int .i64 (z0 + (u.length : Int)), .bool z1] by
            rw [List.take_succ_eq_append_getElem hkl, hz0', hz1']
            unfold shf
            rw [List.map_append, ← List.append_assoc, chc_app]
            rfl)
          clear hz0' hz1'
          have HSB := hid (show ∀ W, Below wr.heap.size wr W → W.cell? (a.add (k * 2)) = some (.int .i64 z0) ∧ W.cell? ⟨(a.add (k * 2)).block, (a.add (k * 2)).off + 1, none⟩ = some (.bool z1) from fun W hW => ⟨(hW.cell (p := a.add (k * 2)) (by rw [add_blk]; exact hab)).trans a0, (hW.cell (p := ⟨(a.add (k * 2)).block, (a.add (k * 2)).off + 1, none⟩) (by rw [add_blk]; exact hab)).trans a1⟩)
          have hbw := HB8.out.size
          have ez : IntKind.i64.wrap (z0 + (u.length : Int)) = z0 + (u.length : Int) := by rw [IntKind.wrap_i64]; omega
          have HCK := hid (show ∀ W, wr.grownBy W (some g) → W.cell? (a.add (k * 2)) = some (.int .i64 z0) ∧ W.cell? ⟨(a.add (k * 2)).block, (a.add (k * 2)).off + 1, none⟩ = some (.bool z1) from fun W hW => (by
            have hne : some a.block ≠ some g := HNB.out
            have hb := hW.block a.block hab hne
            exact ⟨(World.cell?_of_block (w := wr) (a := a.add (k * 2)) (by rw [add_blk]; exact hb)).trans a0, (World.cell?_of_block (w := wr) (a := ⟨(a.add (k * 2)).block, (a.add (k * 2)).off + 1, none⟩) (by show _[(a.add (k * 2)).block]? = _[(a.add (k * 2)).block]?; rw [add_blk]; exact hb)).trans a1⟩))
          go_wp2_with fail
          refine wp_region_mix [(0, true), (1, true), (2, true), (3, true), (4, true), (5, true), (6, true), (7, true), (8, true), (9, true), (10, true), (11, true), (12, true), (13, true), (14, true), (15, false), (16, false), (17, false)] (fun w' => w'.cell? (a.add (k * 2)) = some (.int .i64 z0) ∧ w'.cell? ⟨(a.add (k * 2)).block, (a.add (k * 2)).off + 1, none⟩ = some (.bool z1)) (fun _ => false) (by kernel_rfl) (by kernel_rfl) (fun j hj => by cases hj) rfl (by kernel_rfl) (HSB.out _ (Below.refl _ _).drew) ?_
          iterate 15 (refine mix_free ?_ rfl (by kernel_rfl) (fun w' hS => ?_) ?_; (rotate_left; (obtain ⟨s1, s2⟩ := hS; go_simp; with_reducible rfl); rotate_left))
          refine mix_go rfl (by kernel_rfl) fun KK hKK => ?_
          go_simp
          refine hKK _ _ (fun _ => HSB.out _ ((below_box (o := .cells #[.int .i64 (z0 + (u.length : Int)), .bool z1] 42)).drew)) ?_
          clear hKK KK
          refine mix_go rfl (by kernel_rfl) fun KK hKK => ?_
          refine wp_append_lies _ _ _ 39 rfl w.heap.size 42 i42 (.agg #[.int .i64 0, .bool false]) 2 16 Tryd.underlying39 hi42 hz0 hz1 hz2 rfl (by decide) (.slice (some ⟨g, 0, none⟩) (cn + k) c) (cn + k) (chc (cu ++ shf u.length (ct.take k))) rfl (HW8.out.alloc _).drew ⟨wr.heap.size, 0, none⟩ 1 1 [.int .i64 (z0 + (u.length : Int)), .bool z1] rfl rfl (cell_two_new wr.drew _ _ 42) (by simp [Value.oneCell']) (by decide) (by unfold maxLen; omega) (by omega) (by show w.heap.size ≤ (wr.alloc _).heap.size; simp; omega) (wr.heap.size + 1) (by show (wr.alloc _).heap.size = _; simp) ?_
          intro g8 c8 w8 o8 gr8 hl8 hlt8
          have gr8' : wr.grownBy w8 (some g) := ⟨gr8.os, gr8.tape, gr8.output, by have h : (wr.alloc (.cells #[.int .i64 (z0 + (u.length : Int)), .bool z1] 42)).heap.size ≤ w8.heap.size := gr8.size; simp at h; omega, fun b hb hne => (gr8.block b (by show b < (wr.alloc _).heap.size; simp; omega) hne).trans (Below.heap_alloc wr _ b hb)⟩
          have HG8 := hid gr8'
          have HO8 := hid o8
          have HL8 := hid hl8
          refine hKK _ _ (fun _ => HCK.out _ gr8') ?_
          clear hKK KK o8 gr8 hl8 hlt8 gr8'
          refine mix_go rfl (by kernel_rfl) fun KK hKK => ?_
          go_simp
          refine hKK _ _ (fun _ => HCK.out _ HG8.out) ?_
          clear hKK KK
          refine mix_end (NoPanic.normal ?_)
          have HB9 := hid (show Below w.heap.size w w8 from HB8.out.trans ⟨HG8.out.os, HG8.out.tape, HG8.out.output, HG8.out.size, fun b hb => HG8.out.block b (by omega) (fun e => by have := Option.some.inj e; have := (HW8.out.lt g rfl).1; omega)⟩)
          have HM9 := hid (HM8.out.kept HG8.out (.inr HN8.out))
          have HN9 := hid (show (Value.slice (some a) m ac).ownBlock ≠ some g8 from fun e => by
            rcases HL8.out with h | h
            · exact HN8.out (e.trans h.symm)
            · have := (HM8.out.lt g8 e).2; omega)
          rw [← HSN.out] at HO8
          go_simp
          go_wp2
          go_roundw
          case rel => exact ⟨k + 1, g8, c8, by go_num, by rw [Nat.add_assoc], by omega, by rw [← Nat.add_assoc]; exact HO8, HM9, HN9, HB9⟩
          case measure => simp [intOf]; omega
        · have hki : ¬ (k : Int) < (m : Int) := by omega
          obtain rfl : k = m := by omega
          have HW9 := hid (show wr.ownsRow w.heap.size 42 2 (.slice (some ⟨g, 0, none⟩) (cn + k) c) (cn + k) (chc (chs (u ++ t) 0)) by
            rw [HPR.out.all, ← HCU.out, ← HCT.out]
            have h := HW8.out
            rw [List.take_of_length_le (by have := HM.out; omega)] at h
            exact h)
          have HLN := hid (show cn + k = (chs (u ++ t) 0).length by rw [HPR.out.all, ← HCU.out, ← HCT.out, List.length_append, HCN.out, HM.out]; simp [shf])
          go_wp2_with fail
          rw [cat_eq]
          refine (chances_any (u ++ t) wr (HT.out.below HB8.out) (by rw [List.length_append]; omega)).mono ?_
          rintro e w4 ⟨v, rfl, hown, be4⟩
          rw [← HLN.out] at hown
          obtain ⟨vo, vc, rfl⟩ := own_slice hown
          have HO4 := hid (rdc_own hown)
          have HR4 := hid ((rdc_own HW9.out).below be4)
          have HB4 := hid (HB8.out.trans (be4.mono HB8.out.size))
          clear hown be4
          go_wp2_with fail
          refine (same_any vo (some ⟨g, 0, none⟩) (cn + k) vc c _ w4 HO4.out HR4.out HLN.out (by omega)).mono ?_
          rintro e w5 ⟨rfl, be5⟩
          have HB5 := hid (HB4.out.trans (be5.mono HB4.out.size))
          clear be5
          go_wp2_with fail
          refine (live14 w5 (tbs_below HW.out HB5.out) (HT.out.below HB5.out)).mono ?_
          rintro e w6 ⟨rfl, be6⟩
          have HB6 := hid (HB5.out.trans (be6.mono HB5.out.size))
          clear be6
          go_wp2
          go_ret
          exact ⟨rfl, HB6.out⟩
    | false =>
      clear HX hP hxl hx
      go_wp2_with fail
      rw [show (({ data := s.toArray } ++ { data := #[10] } : ByteArray)) = ⟨(s ++ [10]).toArray⟩ from cat_eq s [10]]
      obtain ⟨u, hu⟩ : ∃ u, u = s ++ [10] := ⟨_, rfl⟩
      have hul : u.length ≤ 63 := by rw [hu, List.length_append]; show s.length + 1 ≤ 63; omega
      have HPR := hid (show Prt u t 3 (bk s) by rw [hu]; exact prt_lf s t)
      have HUN := hid (show u ≠ [] by rw [hu]; simp)
      rw [← hu]
      clear hu
      have HA := hid (below_box (w := w) (o := .cells #[] 42))
      have HOE := hid (show (w.alloc (.cells #[] 42)).ownsRow w.heap.size 42 2 (.slice (some ⟨w.heap.size, 0, none⟩) 0 0) 0 [] from World.ownsRow_lit w #[] 0 (Nat.le_refl _) (by decide) (by simp))
      refine (chances_any u _ (HT.out.below HA.out) (by omega)).mono ?_
      rintro e w1 ⟨v, rfl, hown, be1⟩
      have hcl := chs_len u _ 0 (Nat.le_refl _)
      have hcn : 0 < (chs u 0).length := by rw [chs_step u 0 (List.length_pos_iff.2 HUN.out)]; simp
      obtain ⟨cu, hcu⟩ : ∃ cu, cu = chs u 0 := ⟨_, rfl⟩
      have HCU := hid hcu
      rw [← hcu] at hown hcl hcn
      clear hcu
      obtain ⟨cn, hcnn⟩ : ∃ cn, cn = cu.length := ⟨_, rfl⟩
      have HCN := hid hcnn
      rw [← hcnn] at hown hcl hcn
      clear hcnn
      obtain ⟨g1, c1, rfl⟩ : ∃ g c, v = .slice (some ⟨g, 0, none⟩) cn c := by
        obtain ⟨j, rfl⟩ : ∃ j, cn = j + 1 := ⟨cn - 1, by omega⟩
        exact ownsRow_succ hown
      have HO1 := hid hown
      have HB1 := hid (HA.out.trans (be1.mono HA.out.size))
      have HOE1 := hid (own_bl HOE.out be1)
      have hs1 : w.heap.size + 1 ≤ w1.heap.size := by have := be1.size; simpa using this
      clear hown be1 HOE
      go_wp2_with (at_builtin; refine wpList_append_lies _ rfl _ _ 39 rfl w.heap.size 42 i42 (.agg #[.int .i64 0, .bool false]) 2 16 Tryd.underlying39 hi42 hz0 hz1 hz2 rfl (by decide) (.slice (some ⟨w.heap.size, 0, none⟩) 0 0) 0 [] rfl HOE1.out ⟨g1, 0, none⟩ cn c1 (chc cu) rfl (by rw [chc_len, HCN.out]) (fun j x hj => by rw [Addr.add_lit, Nat.zero_add]; have hjl : j < cn * 2 := (by have := (List.getElem?_eq_some_iff.1 hj).1; rw [chc_len, ← HCN.out] at this; exact this); rw [HO1.out.cellAt j hjl]; exact hj) (chc_one cu) hcn (by unfold maxLen; omega) (by omega) (by omega) w1.heap.size rfl ?_; intro g2 c2 w2 o2 gr2 hl2 hlt2; have HO2 := hid o2; have HG2 := hid gr2; have HLT2 := hid hlt2; clear o2 gr2 hl2 hlt2)
      have HB2 := hid (show Below w.heap.size w w2 from HB1.out.trans ⟨HG2.out.os, HG2.out.tape, HG2.out.output, HG2.out.size, fun k hk => HG2.out.block k (by omega) (fun e => by have e' : some k = some w.heap.size := e; have := Option.some.inj e'; omega)⟩)
      rw [Nat.zero_add, List.nil_append] at HO2
      clear HG2 HOE1 HO1
      refine (chances_any t w2 (HT.out.below HB2.out) (by omega)).mono ?_
      rintro e w3 ⟨v, rfl, hown, be3⟩
      obtain ⟨ct, hct⟩ : ∃ ct, ct = chs t 0 := ⟨_, rfl⟩
      have HCT := hid hct
      have htl2 := chs_len t _ 0 (Nat.le_refl _)
      rw [← hct] at hown htl2
      clear hct
      obtain ⟨m, hm⟩ : ∃ m, m = ct.length := ⟨_, rfl⟩
      have HM := hid hm
      rw [← hm] at hown htl2
      clear hm
      obtain ⟨ao, ac, rfl⟩ := own_slice hown
      have HO3 := hid hown
      have HB3 := hid (HB2.out.trans (be3.mono HB2.out.size))
      have HOW := hid (own_bl HO2.out be3)
      have HNE := hid (show (Value.slice ao m ac).ownBlock ≠ some g2 from fun e => by have := (hown.lt g2 e).1; have := HLT2.out; omega)
      have hs3 := be3.size
      clear hown be3 HO2
      go_wp2
      go_loopw [8, 10] (fun v i wr => ∃ (k g c : Nat), i = .int .i64 k ∧ v = .slice (some ⟨g, 0, none⟩) (cn + k) c ∧ k ≤ m ∧ Hid (wr.ownsRow w.heap.size 42 2 (.slice (some ⟨g, 0, none⟩) (cn + k) c) (cn + k) (chc (cu ++ shf u.length (ct.take k)))) ∧ Hid (wr.ownsRow w2.heap.size 42 2 (.slice ao m ac) m (chc ct)) ∧ Hid ((Value.slice ao m ac).ownBlock ≠ some g) ∧ Hid (Below w.heap.size w wr)) (fun _ i _ => m - (intOf i).toNat)
      case atStart => exact ⟨0, g2, c2, rfl, rfl, Nat.zero_le _, by simpa [Hid, shf] using HOW.out, HO3, HNE, HB3⟩
      case round =>
        obtain ⟨k, g, c, rfl, rfl, hk, HW8, HM8, HN8, HB8⟩ := hrel
        clear HOW HO3 HNE HB3
        by_cases hkm : k < m
        · have hki : (k : Int) < (m : Int) := by omega
          have hkl : k < ct.length := by have := HM.out; omega
          obtain ⟨a, rfl, hab, a0, a1⟩ := rdc_own HM8.out k ct[k] (List.getElem?_eq_getElem hkl)
          have HNB := hid (show some a.block ≠ some g from fun e => HN8.out (by rw [← e]; exact own_blk HM8.out (by omega)))
          obtain ⟨z0, hz0'⟩ : ∃ z, z = ct[k].1 := ⟨_, rfl⟩
          obtain ⟨z1, hz1'⟩ : ∃ z, z = ct[k].2 := ⟨_, rfl⟩
          have HZB := hid (show z0 + (u.length : Int) = z0 + (u.length : Int) ∧ -9223372036854775808 ≤ z0 ∧ z0 ≤ 100000 from ⟨rfl, by rw [hz0']; exact (chs_bd t ct HCT.out k hkl).1, by rw [hz0']; exact (chs_bd t ct HCT.out k hkl).2 (by omega)⟩)
          have hzb1 := HZB.out.2.1
          have hzb2 := HZB.out.2.2
          rw [← hz0'] at a0
          rw [← hz1'] at a1
          have HSN := hid (show chc (cu ++ shf u.length (ct.take (k + 1))) = chc (cu ++ shf u.length (ct.take k)) ++ [.int .i64 (z0 + (u.length : Int)), .bool z1] by
            rw [List.take_succ_eq_append_getElem hkl, hz0', hz1']
            unfold shf
            rw [List.map_append, ← List.append_assoc, chc_app]
            rfl)
          clear hz0' hz1'
          have HSB := hid (show ∀ W, Below wr.heap.size wr W → W.cell? (a.add (k * 2)) = some (.int .i64 z0) ∧ W.cell? ⟨(a.add (k * 2)).block, (a.add (k * 2)).off + 1, none⟩ = some (.bool z1) from fun W hW => ⟨(hW.cell (p := a.add (k * 2)) (by rw [add_blk]; exact hab)).trans a0, (hW.cell (p := ⟨(a.add (k * 2)).block, (a.add (k * 2)).off + 1, none⟩) (by rw [add_blk]; exact hab)).trans a1⟩)
          have hbw := HB8.out.size
          have ez : IntKind.i64.wrap (z0 + (u.length : Int)) = z0 + (u.length : Int) := by rw [IntKind.wrap_i64]; omega
          have HCK := hid (show ∀ W, wr.grownBy W (some g) → W.cell? (a.add (k * 2)) = some (.int .i64 z0) ∧ W.cell? ⟨(a.add (k * 2)).block, (a.add (k * 2)).off + 1, none⟩ = some (.bool z1) from fun W hW => (by
            have hne : some a.block ≠ some g := HNB.out
            have hb := hW.block a.block hab hne
            exact ⟨(World.cell?_of_block (w := wr) (a := a.add (k * 2)) (by rw [add_blk]; exact hb)).trans a0, (World.cell?_of_block (w := wr) (a := ⟨(a.add (k * 2)).block, (a.add (k * 2)).off + 1, none⟩) (by show _[(a.add (k * 2)).block]? = _[(a.add (k * 2)).block]?; rw [add_blk]; exact hb)).trans a1⟩))
          go_wp2_with fail
          refine wp_region_mix [(0, true), (1, true), (2, true), (3, true), (4, true), (5, true), (6, true), (7, true), (8, true), (9, true), (10, true), (11, true), (12, true), (13, true), (14, true), (15, false), (16, false), (17, false)] (fun w' => w'.cell? (a.add (k * 2)) = some (.int .i64 z0) ∧ w'.cell? ⟨(a.add (k * 2)).block, (a.add (k * 2)).off + 1, none⟩ = some (.bool z1)) (fun _ => false) (by kernel_rfl) (by kernel_rfl) (fun j hj => by cases hj) rfl (by kernel_rfl) (HSB.out _ (Below.refl _ _).drew) ?_
          iterate 15 (refine mix_free ?_ rfl (by kernel_rfl) (fun w' hS => ?_) ?_; (rotate_left; (obtain ⟨s1, s2⟩ := hS; go_simp; with_reducible rfl); rotate_left))
          refine mix_go rfl (by kernel_rfl) fun KK hKK => ?_
          go_simp
          refine hKK _ _ (fun _ => HSB.out _ ((below_box (o := .cells #[.int .i64 (z0 + (u.length : Int)), .bool z1] 42)).drew)) ?_
          clear hKK KK
          refine mix_go rfl (by kernel_rfl) fun KK hKK => ?_
          refine wp_append_lies _ _ _ 39 rfl w.heap.size 42 i42 (.agg #[.int .i64 0, .bool false]) 2 16 Tryd.underlying39 hi42 hz0 hz1 hz2 rfl (by decide) (.slice (some ⟨g, 0, none⟩) (cn + k) c) (cn + k) (chc (cu ++ shf u.length (ct.take k))) rfl (HW8.out.alloc _).drew ⟨wr.heap.size, 0, none⟩ 1 1 [.int .i64 (z0 + (u.length : Int)), .bool z1] rfl rfl (cell_two_new wr.drew _ _ 42) (by simp [Value.oneCell']) (by decide) (by unfold maxLen; omega) (by omega) (by show w.heap.size ≤ (wr.alloc _).heap.size; simp; omega) (wr.heap.size + 1) (by show (wr.alloc _).heap.size = _; simp) ?_
          intro g8 c8 w8 o8 gr8 hl8 hlt8
          have gr8' : wr.grownBy w8 (some g) := ⟨gr8.os, gr8.tape, gr8.output, by have h : (wr.alloc (.cells #[.int .i64 (z0 + (u.length : Int)), .bool z1] 42)).heap.size ≤ w8.heap.size := gr8.size; simp at h; omega, fun b hb hne => (gr8.block b (by show b < (wr.alloc _).heap.size; simp; omega) hne).trans (Below.heap_alloc wr _ b hb)⟩
          have HG8 := hid gr8'
          have HO8 := hid o8
          have HL8 := hid hl8
          refine hKK _ _ (fun _ => HCK.out _ gr8') ?_
          clear hKK KK o8 gr8 hl8 hlt8 gr8'
          refine mix_go rfl (by kernel_rfl) fun KK hKK => ?_
          go_simp
          refine hKK _ _ (fun _ => HCK.out _ HG8.out) ?_
          clear hKK KK
          refine mix_end (NoPanic.normal ?_)
          have HB9 := hid (show Below w.heap.size w w8 from HB8.out.trans ⟨HG8.out.os, HG8.out.tape, HG8.out.output, HG8.out.size, fun b hb => HG8.out.block b (by omega) (fun e => by have := Option.some.inj e; have := (HW8.out.lt g rfl).1; omega)⟩)
          have HM9 := hid (HM8.out.kept HG8.out (.inr HN8.out))
          have HN9 := hid (show (Value.slice (some a) m ac).ownBlock ≠ some g8 from fun e => by
            rcases HL8.out with h | h
            · exact HN8.out (e.trans h.symm)
            · have := (HM8.out.lt g8 e).2; omega)
          rw [← HSN.out] at HO8
          go_simp
          go_wp2
          go_roundw
          case rel => exact ⟨k + 1, g8, c8, by go_num, by rw [Nat.add_assoc], by omega, by rw [← Nat.add_assoc]; exact HO8, HM9, HN9, HB9⟩
          case measure => simp [intOf]; omega
        · have hki : ¬ (k : Int) < (m : Int) := by omega
          obtain rfl : k = m := by omega
          have HW9 := hid (show wr.ownsRow w.heap.size 42 2 (.slice (some ⟨g, 0, none⟩) (cn + k) c) (cn + k) (chc (chs (u ++ t) 0)) by
            rw [HPR.out.all, ← HCU.out, ← HCT.out]
            have h := HW8.out
            rw [List.take_of_length_le (by have := HM.out; omega)] at h
            exact h)
          have HLN := hid (show cn + k = (chs (u ++ t) 0).length by rw [HPR.out.all, ← HCU.out, ← HCT.out, List.length_append, HCN.out, HM.out]; simp [shf])
          go_wp2_with fail
          rw [cat_eq]
          refine (chances_any (u ++ t) wr (HT.out.below HB8.out) (by rw [List.length_append]; omega)).mono ?_
          rintro e w4 ⟨v, rfl, hown, be4⟩
          rw [← HLN.out] at hown
          obtain ⟨vo, vc, rfl⟩ := own_slice hown
          have HO4 := hid (rdc_own hown)
          have HR4 := hid ((rdc_own HW9.out).below be4)
          have HB4 := hid (HB8.out.trans (be4.mono HB8.out.size))
          clear hown be4
          go_wp2_with fail
          refine (same_any vo (some ⟨g, 0, none⟩) (cn + k) vc c _ w4 HO4.out HR4.out HLN.out (by omega)).mono ?_
          rintro e w5 ⟨rfl, be5⟩
          have HB5 := hid (HB4.out.trans (be5.mono HB4.out.size))
          clear be5
          go_wp2_with fail
          refine (live14 w5 (tbs_below HW.out HB5.out) (HT.out.below HB5.out)).mono ?_
          rintro e w6 ⟨rfl, be6⟩
          have HB6 := hid (HB5.out.trans (be6.mono HB5.out.size))
          clear be6
          go_wp2
          go_ret
          exact ⟨rfl, HB6.out⟩
end Go.Proofs.YtmhbhjlaagpohaaDoor
