/- The contract of even (package wrap): the walk. -/
import Derived.Test.YtkopefljnhgdkaaGreatDoorWpEv
namespace Go.Proofs.YtkopefljnhgdkaaGreatDoor
open Go.RowKit Go.Shelf

theorem Tryz.infoWay : (Tryz.prog.info? 72).map (fun i => (i.zero, i.size, i.bytes)) = some (some (.agg #[.int .i64 0, .int .i64 0, .int .i64 0]), 3, 24) := by kernel_rfl
theorem EvL.snoc {L : List Bx} {T : Nat → Way} {es : List Int} {first : Nat} (h : ∀ t, EvL L T first t → EvL L T 0 (es ++ t)) (hf : first < L.length) : ∀ t, EvL L T ((T first).e + 1) t → EvL L T 0 ((es ++ [((T first).e : Int)]) ++ t) := fun t ht => by
  rw [List.append_assoc]
  exact h _ ⟨hf, rfl, ht⟩
def EvQ (w : World) (W : Wr) (L : List Bx) (e : Ending) (w' : World) : Prop :=
  ∃ (T : Nat → Way) (es : List Int) (eo : Option Addr) (el ec : Nat), e = .returned (.slice eo el ec) ∧ el = es.length ∧ w'.ownsRow w.heap.size 3 1 (.slice eo el ec) el (i64s es) ∧ Good W L T 0 ∧ EvL L T 0 es ∧ Below w.heap.size w w'
set_option maxHeartbeats 4000000 in
theorem even_any (lo : Option Addr) (n c : Nat) (wd fi re ho : Int) (L : List Bx) (w : World) (hn : n = L.length) (hr : RdB w lo L) (o : Okb ⟨wd, fi, re, ho⟩ L) :
    Calls Tryz.prog 19 #[.agg #[.slice lo n c, .int .i64 wd, .int .i64 fi, .int .i64 re, .int .i64 ho]] w fun e w' => EvQ w ⟨wd, fi, re, ho⟩ L e w' := by
  obtain ⟨i0, hi3, hz0, hz1, hz2⟩ := info_parts Tryz.info3
  have HI := hid (And.intro hi3 (And.intro hz0 (And.intro hz1 hz2)))
  clear hi3 hz0 hz1 hz2
  have HS := hid (Sht.new w lo n c wd fi re ho)
  have HB := hid (below_box (w := w) (o := .cells #[.slice lo n c, .int .i64 wd, .int .i64 fi, .int .i64 re, .int .i64 ho] 56))
  have HR := hid (hr.below HB.out)
  have HN := hid hn
  have HO := hid o
  have hlen : n ≤ 4096 := hn ▸ o.len
  clear hr hn o
  have M1 : ∀ W : World, (Instr.makeSlice 70 (.int .i64 ((n : Int) + 1)) (.int .i64 ((n : Int) + 1))).run Tryz.prog W = .ok (.slice (some ⟨W.heap.size, 0, none⟩) (n + 1) (n + 1)) (W.alloc (.cells (madeCells (Value.agg #[.int .i64 0, .int .i64 0, .int .i64 0]).cells ((n + 1) * 3)) 72)) := by
    obtain ⟨iw, hiw, hw0, hw1, hw2⟩ := info_parts Tryz.infoWay
    exact mkT Tryz.underlying70 hiw hw0 hw1 hw2 (by decide) (n + 1) (by omega)
  obtain ⟨MC, hMC⟩ : ∃ MC, MC = madeCells (Value.agg #[.int .i64 0, .int .i64 0, .int .i64 0]).cells ((n + 1) * 3) := ⟨_, rfl⟩
  rw [← hMC] at M1
  obtain ⟨w1, hw1⟩ : ∃ w1, w1 = (w.alloc (.cells #[.slice lo n c, .int .i64 wd, .int .i64 fi, .int .i64 re, .int .i64 ho] 56)).alloc (.cells MC 72) := ⟨_, rfl⟩
  have HW1 := hid hw1
  have hs1 : w1.heap.size = w.heap.size + 2 := by rw [hw1]; simp
  have HB1 := hid (show Below w.heap.size w w1 by rw [hw1]; exact below_box.alloc (by simp) _)
  have HS1 := hid (show Sht w1 w.heap.size lo n c wd fi re ho by rw [hw1]; exact HS.out.kept below_box)
  have HR1 := hid (show RdB w1 lo L by rw [hw1]; exact HR.out.below below_box)
  have HT1 := hid (show TbA w1 (w.heap.size + 1) (fun _ => ⟨0, 0, 0⟩) n n by
    refine ⟨MC, ?_, by rw [hMC, size_madeCells], fun j h1 h2 => by rw [hMC]; exact made_way n j h2⟩
    have h := World.alloc_heap_new (w.alloc (.cells #[.slice lo n c, .int .i64 wd, .int .i64 fi, .int .i64 re, .int .i64 ho] 56)) (.cells MC 72)
    rw [World.size_alloc] at h
    rw [hw1]
    exact h)
  obtain ⟨c0, c1, c2, c3, c4⟩ := HS.out.cell
  obtain ⟨d0, d1, d2, d3, d4⟩ := HS1.out.cell
  rw [hw1] at d0 d1 d2 d3 d4
  clear hMC hw1
  go_enter Tryz.func19, Tryz.ntmps19
  go_wp2
  rw [← HW1.out]
  clear c0 c1 c2 c3 c4 d0 d1 d2 d3 d4 M1 HW1
  go_loopw [4] (fun v wr => ∃ (k : Nat) (T : Nat → Way), v = .int .i64 ((k : Int) - 1) ∧ k ≤ n ∧ Hid (TbA wr (w.heap.size + 1) T k n) ∧ Hid (Good ⟨wd, fi, re, ho⟩ L T k) ∧ Hid (∀ j, k ≤ j → j ≤ L.length → TOk L T j) ∧ Hid (Below (w.heap.size + 1) w1 wr)) (fun v _ => (intOf v + 1).toNat)
  case atStart => exact ⟨n, fun _ => ⟨0, 0, 0⟩, rfl, Nat.le_refl _, HT1, ⟨rfl, fun k h1 h2 => by have := HN.out; omega⟩, fun j h1 h2 => ⟨Int.le_refl _, by show (0 : Int) ≤ _; omega, Int.le_refl _, by show (0 : Int) ≤ _; omega⟩, Below.refl _ _⟩
  case round =>
    obtain ⟨k, T, rfl, hk, HTB, HGD, HTO, HBW⟩ := hrel
    have HSr := hid (show Sht wr w.heap.size lo n c wd fi re ho from (HBW.out.block _ (by omega)).trans HS1.out)
    have hwr : w.heap.size + 2 ≤ wr.heap.size := by have := HBW.out.size; omega
    have HRr := hid (show RdB wr lo L from HR1.out.keeps HBW.out.size (fun a ha hl => HBW.out.block _ (by
      obtain ⟨a', h1, h2, _⟩ := HR.out.at hl
      rw [ha] at h1; cases h1; simpa using h2)))
    obtain ⟨c0, c1, c2, c3, c4⟩ := HSr.out.cell
    by_cases hk0 : k = 0
    · subst hk0
      have ez : ((0 : Nat) : Int) - 1 = -1 := by omega
      rw [ez]
      clear ez
      have HRD := hid HTB.out.rd
      have hwsz : w.heap.size + 1 ≤ wr.heap.size := by omega
      have hwbl : Below w.heap.size w wr := HB1.out.trans (HBW.out.mono (by omega))
      have HWB := hid hwbl
      clear hwbl hk HTB HTO
      go_wp2
      clear c0 c1 c2 c3 c4
      obtain ⟨wA, hwA⟩ : ∃ wA, wA = wr := ⟨_, rfl⟩
      have hsA : w.heap.size + 2 ≤ wA.heap.size := by rw [hwA]; exact hwr
      rw [← hwA] at HSr HRr HRD HWB
      clear hwr hwsz HBW
      go_loopw [5, 6] (fun v5 v6 wr => ∃ (first : Nat) (es : List Int) (eo : Option Addr) (el ec : Nat), v5 = .slice eo el ec ∧ v6 = .int .i64 first ∧ first ≤ n ∧ el ≤ first ∧ Hid (el = es.length) ∧ Hid (wr.ownsRow wA.heap.size 3 1 (.slice eo el ec) el (i64s es)) ∧ Hid (∀ t, EvL L T first t → EvL L T 0 (es ++ t)) ∧ Hid (Below wA.heap.size wA wr)) (fun _ v6 _ => n - (intOf v6).toNat)
      case atStart => exact ⟨0, [], none, 0, 0, rfl, rfl, Nat.zero_le _, Nat.le_refl _, rfl, own_nil _ _ _ _, fun t ht => ht, by rw [hwA]; exact Below.refl _ _⟩
      case round =>
        clear hwA
        obtain ⟨first, es, eo, el, ec, rfl, rfl, hf, hel, HEL, HOW, HEV, HBr⟩ := hrel
        obtain ⟨c0, c1, c2, c3, c4⟩ := (HSr.out.kept HBr.out).cell
        have hwz := HBr.out.size
        by_cases hlt : first < n
        · have hlti : (first : Int) < (n : Int) := by omega
          have i2 : (first : Int) < (n : Int) + 1 := by omega
          have i1 : (0 : Int) ≤ (first : Int) := by omega
          obtain ⟨k0, k1, k2⟩ := (HRD.out.below HBr.out).2 first (by omega) (by omega)
          have hbb := HGD.out.2 first (Nat.zero_le _) (by have := HN.out; omega)
          have hb1 := hbb.1.1.1
          have hb2 : (T first).e < n := by have := hbb.1.1.2.1; have := HN.out; omega
          have HE2 := hid (EvL.snoc HEV.out (by have := HN.out; omega))
          obtain ⟨j, hj⟩ : ∃ j, j = (T first).e := ⟨_, rfl⟩
          rw [← hj] at k2 hb1 hb2 HE2
          clear hj hbb k0 k1
          have HNX := hid (show ∀ (g5 ec5 : Nat) (w5 : World), w5.ownsRow wA.heap.size 3 1 (.slice (some ⟨g5, 0, none⟩) (el + 1) ec5) (el + 1) (i64s es ++ [.int .i64 (j : Int)]) → (wr.alloc (.cells #[.int .i64 (j : Int)] 3)).grownBy w5 (Value.ownBlock (.slice eo el ec)) →
              w5.cell? ⟨w.heap.size + 1, first * 3 + 2, none⟩ = some (.int .i64 (j : Int)) ∧ w5.ownsRow wA.heap.size 3 1 (.slice (some ⟨g5, 0, none⟩) (el + 1) ec5) (el + 1) (i64s (es ++ [(j : Int)])) ∧ Below wA.heap.size wA w5 by
            intro g5 ec5 w5 o5 gr5
            have hb5 : Below wA.heap.size wA w5 := (HBr.out.alloc hwz _).grown gr5 (by simp; omega) (fun k hk => (HOW.out.lt k hk).1)
            refine ⟨?_, by rw [i64s_snoc]; exact o5, hb5⟩
            have h1 := ((hb5.cell (p := ⟨w.heap.size + 1, first * 3 + 2, none⟩) (by show w.heap.size + 1 < _; omega)).trans (HBr.out.cell (p := ⟨w.heap.size + 1, first * 3 + 2, none⟩) (by show w.heap.size + 1 < _; omega)).symm)
            exact h1.trans k2)
          go_wp2_with (at_builtin; refine wpList_append_lies _ rfl _ _ 33 rfl wA.heap.size 3 i0 (.int .i64 0) 1 8 Tryz.underlying33 HI.out.1 HI.out.2.1 HI.out.2.2.1 HI.out.2.2.2 rfl (by decide) (.slice eo el ec) el (i64s es) rfl (HOW.out.alloc _) ⟨wr.heap.size, 0, none⟩ 1 1 [.int .i64 (j : Int)] rfl rfl (news_one wr _ 3) (i64s_one [(j : Int)]) (by decide) (by unfold maxLen; omega) (by omega) (by simp; omega) (wr.heap.size + 1) (by simp) ?_; intro g5 ec5 w5 o5 gr5 hl5 hlt5; obtain ⟨hc5, hO5, hB5⟩ := HNX.out g5 ec5 w5 o5 gr5; have HO5 := hid hO5; have HB5 := hid hB5; clear hO5 hB5 o5 gr5 hl5 hlt5)
          go_roundw
          case rel => exact ⟨j + 1, es ++ [(j : Int)], _, el + 1, _, rfl, by go_num, by omega, by omega, by show el + 1 = _; rw [List.length_append, ← HEL.out]; rfl, HO5, HE2, HB5⟩
          case measure => simp [intOf]; omega
        · have hlti : ¬ (first : Int) < (n : Int) := by omega
          have HQ := hid (HEV.out [] (show first = L.length by have := HN.out; omega))
          go_wp2
          go_ret
          exact ⟨T, es, eo, el, ec, rfl, HEL.out, own_mono' HOW.out (by omega), HGD.out, by have := HQ.out; rwa [List.append_nil] at this, HWB.out.trans (HBr.out.mono (by omega))⟩
    · obtain ⟨i, rfl⟩ : ∃ i, k = i + 1 := ⟨k - 1, by omega⟩
      obtain ⟨F, hF⟩ := ff_all HO.out i
      have HBS := hid (bstL_best HO.out (by have := HN.out; omega) (fun k h1 h2 => HTO.out k h1 h2) hF)
      have HF := hid hF
      obtain ⟨x, hx⟩ : ∃ x, x = bstL ⟨wd, fi, re, ho⟩ L T i (F.map Fe.j) := ⟨_, rfl⟩
      rw [← hx] at HBS
      have HBC := hid (best_any lo n c wd fi re ho L i (w.heap.size + 1) (n + 1) T F wr HN.out HRr.out HO.out (by omega) hF HTB.out.rd HTO.out)
      rw [← hx] at HBC
      clear hx hF hk0
      have ez : ((i + 1 : Nat) : Int) - 1 = (i : Int) := by omega
      rw [ez]
      have i1 : (0 : Int) ≤ (i : Int) := by omega
      have i2 : (i : Int) < (n : Int) + 1 := by omega
      clear ez
      go_wp2_with fail
      refine HBC.out.mono ?_
      rintro e w2 ⟨rfl, be2⟩
      obtain ⟨xc, xl, xe⟩ := x
      have HT2 := hid (HTB.out.keep (be2.block _ HTB.out.lt))
      obtain ⟨⟨v0, a0⟩, ⟨v1, a1⟩, ⟨v2, a2⟩, hfz⟩ := HT2.out.cells (i := i) (by omega)
      have f0 := hfz (i * 3)
      have f1 := hfz (i * 3 + 1)
      have f2 := hfz (i * 3 + 2)
      have HB2 := hid (HBW.out.trans (be2.mono (by omega)))
      clear hfz be2 c0 c1 c2 c3 c4
      have HG2 := hid (good_step (by have := HN.out; omega) HGD.out HBS.out.1)
      have HTO2 := hid (tok_step (fun k h1 h2 => HTO.out k h1 h2) HBS.out.2)
      have HT3 := hid (show TbA (stw w2 (w.heap.size + 1) (i * 3) (.int .i64 xc) (.int .i64 xl) (.int .i64 (xe : Nat))) (w.heap.size + 1) _ i n from HT2.out.st (by omega) ⟨xc, xl, xe⟩)
      have HB3 := hid (show Below (w.heap.size + 1) w1 (stw w2 (w.heap.size + 1) (i * 3) (.int .i64 xc) (.int .i64 xl) (.int .i64 (xe : Nat))) from HB2.out.trans ⟨rfl, rfl, rfl, by rw [stw_size]; exact Nat.le_refl _, fun k hk => stw_other (by omega)⟩)
      clear HBS HGD HTO HT2 HB2 HBC HF
      go_wp2
      go_roundw
      case rel => exact ⟨i, _, rfl, by omega, HT3, HG2, HTO2, HB3⟩
      case measure => simp [intOf]
end Go.Proofs.YtkopefljnhgdkaaGreatDoor
