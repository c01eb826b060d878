/- What the walk of WidthFits shares: a struct of three numbers in memory, the tables, a number as a number. -/
import Derived.Test.YtlfegdpclappiaaDoorWtPm2Joint
import Derived.Test.YtlfegdpclappiaaDoorGrCnt
import Derived.Test.YtlfegdpclappiaaDoorLiveRun
import Derived.Test.YtlfegdpclappiaaDoorWtPm4Joint
import Derived.Test.YtlfegdpclappiaaDoorGrLaw3Joint
namespace Go.Proofs.YtlfegdpclappiaaDoor
open Go.RowKit

theorem tbs_below {w w' : World} (h : Ev.Tbs tabs w) (hb : Below w.heap.size w w') : Ev.Tbs tabs w' := fun x hx => by
  obtain ⟨c, h1, h2⟩ := h x hx
  exact ⟨c, (hb.block _ (Array.getElem?_eq_some_iff.1 h1).1).trans h1, h2⟩
theorem wnum_any (z : Int) (w : World) : Calls Tryd.prog 17 #[.int .i64 z] w fun e w' => e = .returned (.int .i64 z) ∧ w' = w := by
  go_enter Tryd.func17, Tryd.ntmps17
  go_wp2
  go_ret
  exact ⟨rfl, rfl⟩
/-- A struct of three numbers in memory. -/
def Cel (w : World) (B : Nat) (a t s : Int) : Prop := w.cell? ⟨B, 0, none⟩ = some (.int .i64 a) ∧ w.cell? ⟨B, 1, none⟩ = some (.int .i64 t) ∧ w.cell? ⟨B, 2, none⟩ = some (.int .i64 s)
theorem cel_cells {w : World} {B : Nat} {a t s : Int} (h : w.heap[B]? = some (.cells #[.int .i64 a, .int .i64 t, .int .i64 s] 36 (0, 0))) : Cel w B a t s :=
  ⟨by simp [World.cell?, h], by simp [World.cell?, h], by simp [World.cell?, h]⟩
theorem Cel.kept {w w' : World} {B : Nat} {a t s : Int} (h : Cel w B a t s) (hb : Below w.heap.size w w') (hB : B < w.heap.size) : Cel w' B a t s :=
  ⟨(hb.cell (p := ⟨B, 0, none⟩) hB).trans h.1, (hb.cell (p := ⟨B, 1, none⟩) hB).trans h.2.1, (hb.cell (p := ⟨B, 2, none⟩) hB).trans h.2.2⟩
end Go.Proofs.YtlfegdpclappiaaDoor
/- The walk of WidthFits. -/
namespace Go.Proofs.YtlfegdpclappiaaDoor
open Go.RowKit Go.Shelf
attribute [local go_sem] Oper.semAt_some

theorem eq_nilf (lb : Array Value) (w : World) : (binOp .eql 46 (.func (.func 51) #[] lb) .nilFunc).run Tryd.prog w = .ok (.bool false) w := by kernel_rfl
attribute [local go_sem] eq_nilf
set_option maxHeartbeats 8000000 in
set_option maxRecDepth 100000 in
theorem fits_in (l : List UInt8) (z a t s : Int) (w : World) (hl : l.length ≤ 100) (htb : Ev.Tbs tabs w) (ht : TbW w) (hk : Okc a t s) :
    CallsIn Fence.wide 3 Tryd.prog 6 #[.string ⟨l.toArray⟩, .int .i64 z, .agg #[.int .i64 a, .int .i64 t, .int .i64 s]] w fun e w' => e = .returned (.bool true) ∧ Below w.heap.size w w' := by
  have HT := hid ht
  have HTB := hid htb
  have HK := hid hk
  have HCK := hid (show chkE a t s = 0 by unfold chkE; rw [if_pos ((okc_is a t s).2 hk)])
  have hli : ¬ (100 : Int) < (l.length : Int) := by omega
  obtain ⟨N, hN⟩ : ∃ N, N = w.heap.size := ⟨_, rfl⟩
  have HLV := hid (fun W (h : Below N w W) => lives_width W (tbs_below HTB.out (by rw [← hN]; exact h)))
  have HTT := hid (fun W (h : Below N w W) => HT.out.below (by rw [← hN]; exact h))
  have h2 : 2 ≤ N := by rw [hN]; exact HT.out.two
  have hB0 : Below N w ((w.alloc (.cells #[.int .i64 a, .int .i64 t, .int .i64 s] 36)).alloc (.cells #[.bool false] 4)) := by rw [hN]; exact ((Below.refl _ _).alloc (Nat.le_refl _) _).alloc (by simp) _
  have b0 := al_keep (World.alloc_heap_new w (.cells #[.int .i64 a, .int .i64 t, .int .i64 s] 36)) (.cells #[.bool false] 4)
  have b1 := Boxed.new (w.alloc (.cells #[.int .i64 a, .int .i64 t, .int .i64 s] 36)) 4 (.bool false)
  have hsz0 : ((w.alloc (.cells #[.int .i64 a, .int .i64 t, .int .i64 s] 36)).alloc (.cells #[.bool false] 4)).heap.size = N + 2 := by rw [hN]; simp
  rw [World.size_alloc] at b1
  clear ht htb hk
  refine callsIn_of_wp_marks Tryd.func6 rfl trivial ?_ rfl
  simp only [Tryd.ntmps6, List.size_toArray, List.length_cons, List.length_nil, Nat.reduceAdd, Nat.reduceSub, Array.replicate_succ, Array.replicate_zero, List.push_toArray, List.append_toArray, List.nil_append, List.cons_append]
  gi_wp2_with fail
  obtain ⟨w0, hw0⟩ : ∃ w0, w0 = (w.alloc (.cells #[.int .i64 a, .int .i64 t, .int .i64 s] 36)).alloc (.cells #[.bool false] 4) := ⟨_, rfl⟩
  rw [← hw0] at b0 b1 hsz0 hB0 ⊢
  rw [← hN] at b0 b1 ⊢
  have HN := hid hN
  clear hw0 hN
  refine ⟨trivial, (callsIn_wide.2 (wcheck_any a t s w0)).mono ?_⟩
  rintro e w1 ⟨rfl, be1⟩
  rw [HCK.out]
  have HB1 := hid (hB0.trans (be1.mono (by omega)))
  have b01 := (be1.block N (by omega)).trans b0
  have b11 : Boxed w1 (N + 1) 4 (.bool false) := (be1.block (N + 1) (by omega)).trans b1
  clear be1 b0 b1 hB0 hsz0
  gi_wp2_with fail
  refine ⟨trivial, (callsIn_wide.2 (wnum_any 0 w1)).mono ?_⟩
  rintro e w2 ⟨rfl, hw2⟩
  obtain rfl := hw2.symm
  clear hw2
  have c0 : w1.cell? ⟨N, 0, none⟩ = some (.int .i64 a) := by simp [World.cell?, b01]
  have c1 : w1.cell? ⟨N, 1, none⟩ = some (.int .i64 t) := by simp [World.cell?, b01]
  have c2 : w1.cell? ⟨N, 2, none⟩ = some (.int .i64 s) := by simp [World.cell?, b01]
  gi_wp2_with fail
  refine ⟨trivial, (callsIn_wide.2 (wcut_any l z a t s w1 (HTT.out _ HB1.out) (by omega) HK.out)).mono ?_⟩
  rintro e w3 ⟨n, c, rfl, hF, be3⟩
  obtain ⟨hf1, hf2⟩ := fit_tx hF
  have hnl := fit_le hF
  have HF1 := hid hf1
  have HB3 := hid (HB1.out.trans (be3.mono (by have := HB1.out.size; have := HN.out; omega)))
  have b03 := (be3.block N (Array.getElem?_eq_some_iff.1 b01).1).trans b01
  have b13 : Boxed w3 (N + 1) 4 (.bool false) := (be3.block (N + 1) b11.lt).trans b11
  clear be3 hF b01 b11 c0 c1 c2 hf1 HB1
  have c0 : w3.cell? ⟨N, 0, none⟩ = some (.int .i64 a) := by simp [World.cell?, b03]
  have c1 : w3.cell? ⟨N, 1, none⟩ = some (.int .i64 t) := by simp [World.cell?, b03]
  have c2 : w3.cell? ⟨N, 2, none⟩ = some (.int .i64 s) := by simp [World.cell?, b03]
  gi_wp2_with fail
  refine ⟨trivial, (callsIn_wide.2 (wtext_any (l.take n) a t s w3 (HTT.out _ HB3.out) (by rw [List.length_take]; omega) HK.out)).mono ?_⟩
  rintro e w4 ⟨rfl, be4⟩
  rw [HF1.out]
  have HB4 := hid (HB3.out.trans (be4.mono (by have := HB3.out.size; have := HN.out; omega)))
  have b04 := (be4.block N (Array.getElem?_eq_some_iff.1 b03).1).trans b03
  have b14 : Boxed w4 (N + 1) 4 (.bool false) := (be4.block (N + 1) b13.lt).trans b13
  clear be4 b03 b13 c0 c1 c2 HB3
  have c0 : w4.cell? ⟨N, 0, none⟩ = some (.int .i64 a) := by simp [World.cell?, b04]
  have c1 : w4.cell? ⟨N, 1, none⟩ = some (.int .i64 t) := by simp [World.cell?, b04]
  have c2 : w4.cell? ⟨N, 2, none⟩ = some (.int .i64 s) := by simp [World.cell?, b04]
  have hcc : (c != c) = false := by simp
  have htl : (l.take n).length = n := by rw [List.length_take]; omega
  have HTL := hid htl
  have hnli : ¬ (l.length : Int) < (n : Int) := by omega
  have hnn : ¬ l.length < n := by omega
  have hst : (((⟨l.toArray⟩ : ByteArray).extract 0 n).toList == l.take n) = true := by rw [wtake]; simp
  by_cases hzc : z < c
  · have hcs : (c != s) = false := by
      rcases hf2 with h | h
      · omega
      · rw [h]; simp
    clear hf2
    gi_wp2_with fail
    refine ⟨trivial, (callsIn_wide.2 (wplain_any l a t s w4 (HTT.out _ HB4.out) (by omega) HK.out)).mono ?_⟩
    rintro e w5 ⟨rfl, be5⟩
    have HPP := hid (show (plP l a t s (gpF l 0)).2 = plnB l a t s from rfl)
    rw [HPP.out]
    have hpl : (plnB l a t s).length ≤ 100000 := by
      have h := plP_len l a t s HK.out (by omega) (gpF l 0) (s, []) HK.out.s1
      have e : (plnB l a t s).length ≤ 0 + 1000 * (gpF l 0).length := h
      have hg : (gpF l 0).length ≤ 100 := by rw [gpF_0, plc_len]; exact Nat.le_trans (gcnt_le l) hl
      omega
    have HP9 := hid (pln_no9 l a t s HK.out)
    have HPT := hid (pln_tx l a t s HK.out)
    obtain ⟨p, hp⟩ : ∃ p, p = plnB l a t s := ⟨_, rfl⟩
    rw [← hp] at hpl HP9 HPT ⊢
    clear hp HPP hst hcc hnn hnli HF1 hnl HTL htl
    have HB5 := hid (HB4.out.trans (be5.mono (by have := HB4.out.size; have := HN.out; omega)))
    have b05 := (be5.block N (Array.getElem?_eq_some_iff.1 b04).1).trans b04
    have b15 : Boxed w5 (N + 1) 4 (.bool false) := (be5.block (N + 1) b14.lt).trans b14
    have hs5 : N + 1 < w5.heap.size := b15.lt
    clear be5 b04 b14 c0 c1 c2 HB4
    have b2 := (Boxed.new w5 9 (.string ⟨p.toArray⟩)).alloc (.cells #[.string ⟨p.toArray⟩] 9)
    have b3 := Boxed.new (w5.alloc (.cells #[.string ⟨p.toArray⟩] 9)) 9 (.string ⟨p.toArray⟩)
    have hB6 : Below w5.heap.size w5 ((w5.alloc (.cells #[.string ⟨p.toArray⟩] 9)).alloc (.cells #[.string ⟨p.toArray⟩] 9)) := ((Below.refl _ _).alloc (Nat.le_refl _) _).alloc (by simp) _
    have hs6 : ((w5.alloc (.cells #[.string ⟨p.toArray⟩] 9)).alloc (.cells #[.string ⟨p.toArray⟩] 9)).heap.size = w5.heap.size + 2 := by simp
    rw [World.size_alloc] at b3
    obtain ⟨L, hL, hLl⟩ := gp_all p _ 0 (Nat.le_refl _)
    have HL := hid hL
    have hll : L.length ≤ 100000 := by omega
    clear hL hLl
    gi_wp2_with (refine ⟨trivial, ?_⟩; gi_at_call 23; refine (callsIn_wide.2 (geach_any p _)).mono ?_; rintro e w' ⟨rfl, rfl⟩)
    obtain ⟨w6, hw6⟩ : ∃ w6, w6 = (w5.alloc (.cells #[.string ⟨p.toArray⟩] 9)).alloc (.cells #[.string ⟨p.toArray⟩] 9) := ⟨_, rfl⟩
    rw [← hw6] at b2 b3 hB6 hs6 ⊢
    clear hw6
    obtain ⟨M, hM⟩ : ∃ M, M = w5.heap.size := ⟨_, rfl⟩
    rw [← hM] at b2 b3 hB6 hs6 hs5 ⊢
    have HB6 := hid (show Below N w w6 from HB5.out.trans (hB6.mono (by omega)))
    have HEa := hid (show WaAt (M + 1) p w6 from ⟨b3, HTT.out _ HB6.out⟩)
    have HI0 := hid (And.intro (And.intro ((hB6.block N (by omega)).trans b05) (show Boxed w6 (N + 1) 4 (.bool false) from (hB6.block (N + 1) (by omega)).trans b15)) b2)
    have HS6 := hid hs6
    clear b05 b15 b2 b3 hB6 hs6 HB5 hM
    refine rfF1 (M + 1) (fun _ => False) L (by omega) rfl HL.out HEa.out (by omega) rfl (fun k hk => hk.elim)
      (fun _ W => (W.heap[N]? = some (.cells #[.int .i64 a, .int .i64 t, .int .i64 s] 36 (0, 0)) ∧ Boxed W (N + 1) 4 (.bool false)) ∧ Boxed W M 9 (.string ⟨p.toArray⟩))
      (fun _ _ _ => False)
      (OwnFrom.and (OwnFrom.and (cells_from _ _ _ _) (Own.from (boxed_own _ _ _) _)) (Own.from (boxed_own _ _ _) _))
      (fun _ _ _ _ _ hs _ _ => hs) HI0.out
      11 ?assign1 ?body1 ?done1 ?stop1
    case assign1 =>
      intro lp x W K hK
      dsimp only [encP]
      gi_wp2
      simpa [fr1, encP] using hK
    case body1 =>
      rintro lp pre x W ⟨⟨v0, v1⟩, v2⟩ hb he hlt
      have hx1 := x.lt
      have hx2 := x.le
      obtain ⟨f, hf⟩ : ∃ f, f = x.v.1 := ⟨_, rfl⟩
      obtain ⟨y, hx⟩ : ∃ y, y = x.v.2 := ⟨_, rfl⟩
      have hfl : f < p.length := by omega
      have hfli : ¬ (p.length : Int) ≤ (f : Int) := by omega
      have hszp : f < (⟨p.toArray⟩ : ByteArray).size := by show f < p.toArray.size; simpa using hfl
      have hby := byt_eq p f hszp
      have h9 : ((((⟨p.toArray⟩ : ByteArray)[f]'hszp).toNat : Int) == 9) = false := by rw [hby]; exact beq_eq_false_iff_ne.2 (HP9.out f hfl)
      dsimp only [fr1, encP]
      rw [← hf, ← hx]
      have HV := hid (And.intro (And.intro v0 v1) v2)
      have c0 := v2.cell
      clear hf hx hx1 hx2 v0 v1 v2 hby
      gi_wp2
      exact ⟨BS.refl _ _, HV.out⟩
    case done1 =>
      rintro D W hD ⟨⟨v0, v1⟩, v2⟩ hb hK
      have hWs := hb.size
      have HBW := hid (show Below N w W from HB6.out.trans (hb.lower N (fun k hk => hk.elim) (by have := HS6.out; omega)))
      gi_wp2_with fail
      refine ⟨trivial, (callsIn_wide.2 (runes_any l W (by omega))).mono ?_⟩
      rintro e W1 ⟨v, rfl, hown, be1⟩
      obtain ⟨vo, vc, rfl⟩ := wown_slice hown
      have hpn := prs_len2 l
      have HQ := hid (rdq_own hown hpn)
      have HBW1 := hid (HBW.out.trans (be1.mono (by have := HBW.out.size; have := HN.out; omega)))
      have u0 := (be1.block N (Array.getElem?_eq_some_iff.1 v0).1).trans v0
      have u1 : Boxed W1 (N + 1) 4 (.bool false) := (be1.block _ v1.lt).trans v1
      have u2 : Boxed W1 M 9 (.string ⟨p.toArray⟩) := (be1.block _ v2.lt).trans v2
      have HK1 := hid (show W1.heap[D]? = some (.deferred (some [])) from (be1.block D (Array.getElem?_eq_some_iff.1 hK).1).trans hK)
      have HU := hid (And.intro u0 (And.intro u1 u2))
      have hW1s := be1.size
      obtain ⟨m, hm⟩ : ∃ m, m = (rl l).length := ⟨_, rfl⟩
      rw [hpn, ← hm]
      have hml : m ≤ 100 := by rw [hm, ← hpn]; exact Nat.le_trans (prs_len l) hl
      have HM := hid hm
      clear hown hpn be1 v0 v1 v2 hK hm u0 u1 u2 hb
      gi_wp2
      gi_loopw [13] (fun v wr => ∃ i : Nat, v = .int .i64 i ∧ i ≤ m ∧ Hid (∀ k (h : k < (rl l).length), k < i → gc (rl l)[k] ≠ 6) ∧ wr = W1) (fun v _ => m - (intOf v).toNat)
      case atStart => exact ⟨0, rfl, Nat.zero_le _, fun k _ h => by omega, rfl⟩
      case round =>
        obtain ⟨i, rfl, him, HI, rfl⟩ := hrel
        by_cases hlt : i < m
        · have hlti : (i : Int) < (m : Int) := by omega
          have hil : i < (rl l).length := by rw [← HM.out]; exact hlt
          obtain ⟨ad, rfl, _, hcell⟩ := HQ.out i ((rl l)[i]) (List.getElem?_eq_getElem hil)
          obtain ⟨r, hr⟩ : ∃ r : Int, r = (((rl l)[i]).1 : Int) := ⟨_, rfl⟩
          have HR := hid (show gpcls r = gc (rl l)[i] by rw [hr]; rfl)
          rw [← hr] at hcell
          clear hr
          gi_wp2_with fail
          refine ⟨trivial, (callsIn_wide.2 (gpcls_any r _)).mono ?_⟩
          rintro e W2 ⟨rfl, hW2⟩
          obtain rfl := hW2.symm
          clear hW2
          obtain ⟨kc, hkc⟩ : ∃ k, k = gpcls r := ⟨_, rfl⟩
          rw [← hkc] at HR ⊢
          clear hkc
          by_cases h6 : kc = 6
          · subst h6
            gi_wp2_with fail
            refine ⟨trivial, (callsIn_wide.2 (HLV.out _ HBW1.out)).mono ?_⟩
            rintro e W3 ⟨rfl, be3⟩
            have w1 : Boxed W3 (N + 1) 4 (.bool false) := (be3.block _ HU.out.2.1.lt).trans HU.out.2.1
            have HK3 := hid ((be3.block D (Array.getElem?_eq_some_iff.1 HK1.out).1).trans HK1.out)
            have HB3 := hid (HBW1.out.trans (be3.mono (by have := HBW1.out.size; have := HN.out; omega)))
            have fw := w1.frozen
            have ew := w1.cell
            clear be3
            gi_wp2
            have y1 := w1.set (.bool true)
            have HKX := hid ((KeepsOthers.setCell W3 ⟨N + 1, 0, none⟩ (.bool true)).same D _ HK3.out rfl)
            have HBX := hid (HB3.out.setCell (p := ⟨N + 1, 0, none⟩) (by simp) (.bool true))
            have hKx := HKX.out
            have cz := cell_kept y1.cell (grownBy_putObj' _ D (.deferred none)) (fun r e => by cases e; exact ⟨_, hKx, rfl⟩)
            refine ⟨by simp, .inl ⟨_, _, rfl, run_takeDeferred hKx, ?_⟩⟩
            refine ⟨.bool true, ?_, rfl, ?_⟩
            · simp [results, Tryd.f6, go_sem, cz]
            · have hn := HN.out
              rw [← hn]
              exact HBX.out.trans (belowK_b (w := w) (by omega) _ D _ _ (by have := HS6.out; omega) hKx rfl rfl)
          · have k6 : (kc == 6) = false := beq_eq_false_iff_ne.2 h6
            have HI2 := hid (show ∀ k (h : k < (rl l).length), k < i + 1 → gc (rl l)[k] ≠ 6 from fun k h hk => by
              rcases Nat.lt_or_ge k i with h1 | h1
              · exact HI.out k h h1
              · obtain rfl : k = i := by omega
                rw [← HR.out]; exact h6)
            clear h6
            gi_wp2
            go_roundw
            case rel => exact ⟨i + 1, by go_num, by omega, HI2, trivial⟩
            case measure => simp [intOf]; omega
        · have hlti : ¬ (i : Int) < (m : Int) := by omega
          have HNM := hid (show ∀ r ∈ rl l, gc r ≠ 6 from fun r hr => by
            obtain ⟨k, hk, rfl⟩ := List.mem_iff_getElem.1 hr
            exact HI.out k hk (by have := HM.out; omega))
          have HEQ := hid (HPT.out HNM.out)
          have c0 := cel_cells HU.out.1
          have c2 := HU.out.2.2.cell
          have HSK := hid (fun (W : World) (h : Below (_ : World).heap.size _ W) => And.intro ((h.cell (p := ⟨M, 0, none⟩) HU.out.2.2.lt).trans c2) (c0.kept h (Array.getElem?_eq_some_iff.1 HU.out.1).1))
          gi_wp2
          refine wpIn_region_mixW _ [(0, true), (1, true), (3, true), (4, true), (2, false), (5, false), (6, true), (7, true), (8, false), (9, true), (10, false)] (fun w' => w'.cell? ⟨M, 0, none⟩ = some (.string ⟨p.toArray⟩) ∧ Cel w' N a t s) (fun j => j == 10) (by kernel_rfl) (by kernel_rfl) (by kernel_rfl) ?hs1 rfl (by kernel_rfl) (HSK.out _ ((Below.refl _ _).drew)) ?hm1
          case hs1 =>
            intro j hj
            have e : j = 10 := by simpa using hj
            subst e
            decide
          iterate 4 (refine mix_free ?_ rfl (by kernel_rfl) (fun w' hS => ?_) ?_; (rotate_left; (obtain ⟨s1, s2, s3, s4⟩ := hS; go_simp; with_reducible rfl); rotate_left))
          refine mix_go rfl (by kernel_rfl) fun KK hKK => ?_
          go_simp
          refine (wtext_any p a t s _ (HTT.out _ HBW1.out.drew) (by omega) HK.out).mono ?_
          rintro e W3 ⟨rfl, be3⟩
          rw [HEQ.out]
          obtain ⟨v, hv⟩ : ∃ v, v = colP l a t s (gpF l 0) := ⟨_, rfl⟩
          rw [← hv]
          have HV := hid hv
          have HB3 := hid (HBW1.out.drew.trans (be3.mono (by have := HBW1.out.drew.size; have := HN.out; omega)))
          have HE3 := hid (((Below.refl _ _).drew).trans be3)
          refine hKK _ _ (fun _ => HSK.out _ HE3.out) ?_
          clear hKK KK be3 hv
          refine mix_go rfl (by kernel_rfl) fun KK hKK => ?_
          go_simp
          refine (wtext_any l a t s W3 (HTT.out _ HB3.out) (by omega) HK.out).mono ?_
          rintro e W4 ⟨rfl, be4⟩
          rw [← HV.out]
          have HB4 := hid (HB3.out.trans (be4.mono (by have := HB3.out.size; have := HN.out; omega)))
          have HE4 := hid (HE3.out.trans (be4.mono HE3.out.size))
          refine hKK _ _ (fun _ => HSK.out _ HE4.out) ?_
          clear hKK KK be4
          have vv : (v == v) = true := beq_self_eq_true v
          iterate 2 (refine mix_free ?_ rfl (by kernel_rfl) (fun w' hS => ?_) ?_; (rotate_left; (go_simp; with_reducible rfl); rotate_left))
          refine mix_go rfl (by kernel_rfl) fun KK hKK => ?_
          go_simp
          refine (HLV.out _ HB4.out).mono ?_
          rintro e W5 ⟨rfl, be5⟩
          have HB5 := hid (HB4.out.trans (be5.mono (by have := HB4.out.size; have := HN.out; omega)))
          have HE5 := hid (HE4.out.trans (be5.mono HE4.out.size))
          refine hKK _ _ (fun _ => HSK.out _ HE5.out) ?_
          clear hKK KK be5
          refine mix_free ?_ rfl (by kernel_rfl) (fun w' hS => ?_) ?_; (rotate_left; (go_simp; with_reducible rfl); rotate_left)
          refine mix_go rfl (by kernel_rfl) fun KK hKK => ?_
          have w1 : Boxed W5 (N + 1) 4 (.bool false) := (HE5.out.block _ HU.out.2.1.lt).trans HU.out.2.1
          have fw := w1.frozen
          have ew := w1.cell
          go_simp
          refine hKK _ _ (fun h => by cases h) ?_
          clear hKK KK fw ew
          refine mix_end (OnlyN.in ?_)
          have HK5 := hid ((HE5.out.block D (Array.getElem?_eq_some_iff.1 HK1.out).1).trans HK1.out)
          gi_wp2
          have y1 := w1.set (.bool true)
          have HKX := hid ((KeepsOthers.setCell W5 ⟨N + 1, 0, none⟩ (.bool true)).same D _ HK5.out rfl)
          have HBX := hid (HB5.out.setCell (p := ⟨N + 1, 0, none⟩) (by simp) (.bool true))
          have hKx := HKX.out
          have cz := cell_kept y1.cell (grownBy_putObj' _ D (.deferred none)) (fun r e => by cases e; exact ⟨_, hKx, rfl⟩)
          refine ⟨by simp, .inl ⟨_, _, rfl, run_takeDeferred hKx, ?_⟩⟩
          refine ⟨.bool true, ?_, rfl, ?_⟩
          · simp [results, Tryd.f6, go_sem, cz]
          · have hn := HN.out
            rw [← hn]
            exact HBX.out.trans (belowK_b (w := w) (by omega) _ D _ _ (by have := HS6.out; omega) hKx rfl rfl)
    case stop1 =>
      rintro D c pre W _ _ h _
      exact h.elim
  · clear hf2
    gi_wp2_with fail
    refine ⟨trivial, (callsIn_wide.2 (wplain_any l a t s w4 (HTT.out _ HB4.out) (by omega) HK.out)).mono ?_⟩
    rintro e w5 ⟨rfl, be5⟩
    have HPP := hid (show (plP l a t s (gpF l 0)).2 = plnB l a t s from rfl)
    rw [HPP.out]
    have hpl : (plnB l a t s).length ≤ 100000 := by
      have h := plP_len l a t s HK.out (by omega) (gpF l 0) (s, []) HK.out.s1
      have e : (plnB l a t s).length ≤ 0 + 1000 * (gpF l 0).length := h
      have hg : (gpF l 0).length ≤ 100 := by rw [gpF_0, plc_len]; exact Nat.le_trans (gcnt_le l) hl
      omega
    have HP9 := hid (pln_no9 l a t s HK.out)
    have HPT := hid (pln_tx l a t s HK.out)
    obtain ⟨p, hp⟩ : ∃ p, p = plnB l a t s := ⟨_, rfl⟩
    rw [← hp] at hpl HP9 HPT ⊢
    clear hp HPP hst hcc hnn hnli HF1 hnl HTL htl
    have HB5 := hid (HB4.out.trans (be5.mono (by have := HB4.out.size; have := HN.out; omega)))
    have b05 := (be5.block N (Array.getElem?_eq_some_iff.1 b04).1).trans b04
    have b15 : Boxed w5 (N + 1) 4 (.bool false) := (be5.block (N + 1) b14.lt).trans b14
    have hs5 : N + 1 < w5.heap.size := b15.lt
    clear be5 b04 b14 c0 c1 c2 HB4
    have b2 := (Boxed.new w5 9 (.string ⟨p.toArray⟩)).alloc (.cells #[.string ⟨p.toArray⟩] 9)
    have b3 := Boxed.new (w5.alloc (.cells #[.string ⟨p.toArray⟩] 9)) 9 (.string ⟨p.toArray⟩)
    have hB6 : Below w5.heap.size w5 ((w5.alloc (.cells #[.string ⟨p.toArray⟩] 9)).alloc (.cells #[.string ⟨p.toArray⟩] 9)) := ((Below.refl _ _).alloc (Nat.le_refl _) _).alloc (by simp) _
    have hs6 : ((w5.alloc (.cells #[.string ⟨p.toArray⟩] 9)).alloc (.cells #[.string ⟨p.toArray⟩] 9)).heap.size = w5.heap.size + 2 := by simp
    rw [World.size_alloc] at b3
    obtain ⟨L, hL, hLl⟩ := gp_all p _ 0 (Nat.le_refl _)
    have HL := hid hL
    have hll : L.length ≤ 100000 := by omega
    clear hL hLl
    gi_wp2_with (refine ⟨trivial, ?_⟩; gi_at_call 23; refine (callsIn_wide.2 (geach_any p _)).mono ?_; rintro e w' ⟨rfl, rfl⟩)
    obtain ⟨w6, hw6⟩ : ∃ w6, w6 = (w5.alloc (.cells #[.string ⟨p.toArray⟩] 9)).alloc (.cells #[.string ⟨p.toArray⟩] 9) := ⟨_, rfl⟩
    rw [← hw6] at b2 b3 hB6 hs6 ⊢
    clear hw6
    obtain ⟨M, hM⟩ : ∃ M, M = w5.heap.size := ⟨_, rfl⟩
    rw [← hM] at b2 b3 hB6 hs6 hs5 ⊢
    have HB6 := hid (show Below N w w6 from HB5.out.trans (hB6.mono (by omega)))
    have HEa := hid (show WaAt (M + 1) p w6 from ⟨b3, HTT.out _ HB6.out⟩)
    have HI0 := hid (And.intro (And.intro ((hB6.block N (by omega)).trans b05) (show Boxed w6 (N + 1) 4 (.bool false) from (hB6.block (N + 1) (by omega)).trans b15)) b2)
    have HS6 := hid hs6
    clear b05 b15 b2 b3 hB6 hs6 HB5 hM
    refine rfF1 (M + 1) (fun _ => False) L (by omega) rfl HL.out HEa.out (by omega) rfl (fun k hk => hk.elim)
      (fun _ W => (W.heap[N]? = some (.cells #[.int .i64 a, .int .i64 t, .int .i64 s] 36 (0, 0)) ∧ Boxed W (N + 1) 4 (.bool false)) ∧ Boxed W M 9 (.string ⟨p.toArray⟩))
      (fun _ _ _ => False)
      (OwnFrom.and (OwnFrom.and (cells_from _ _ _ _) (Own.from (boxed_own _ _ _) _)) (Own.from (boxed_own _ _ _) _))
      (fun _ _ _ _ _ hs _ _ => hs) HI0.out
      11 ?assign2 ?body2 ?done2 ?stop2
    case assign2 =>
      intro lp x W K hK
      dsimp only [encP]
      gi_wp2
      simpa [fr1, encP] using hK
    case body2 =>
      rintro lp pre x W ⟨⟨v0, v1⟩, v2⟩ hb he hlt
      have hx1 := x.lt
      have hx2 := x.le
      obtain ⟨f, hf⟩ : ∃ f, f = x.v.1 := ⟨_, rfl⟩
      obtain ⟨y, hx⟩ : ∃ y, y = x.v.2 := ⟨_, rfl⟩
      have hfl : f < p.length := by omega
      have hfli : ¬ (p.length : Int) ≤ (f : Int) := by omega
      have hszp : f < (⟨p.toArray⟩ : ByteArray).size := by show f < p.toArray.size; simpa using hfl
      have hby := byt_eq p f hszp
      have h9 : ((((⟨p.toArray⟩ : ByteArray)[f]'hszp).toNat : Int) == 9) = false := by rw [hby]; exact beq_eq_false_iff_ne.2 (HP9.out f hfl)
      dsimp only [fr1, encP]
      rw [← hf, ← hx]
      have HV := hid (And.intro (And.intro v0 v1) v2)
      have c0 := v2.cell
      clear hf hx hx1 hx2 v0 v1 v2 hby
      gi_wp2
      exact ⟨BS.refl _ _, HV.out⟩
    case done2 =>
      rintro D W hD ⟨⟨v0, v1⟩, v2⟩ hb hK
      have hWs := hb.size
      have HBW := hid (show Below N w W from HB6.out.trans (hb.lower N (fun k hk => hk.elim) (by have := HS6.out; omega)))
      gi_wp2_with fail
      refine ⟨trivial, (callsIn_wide.2 (runes_any l W (by omega))).mono ?_⟩
      rintro e W1 ⟨v, rfl, hown, be1⟩
      obtain ⟨vo, vc, rfl⟩ := wown_slice hown
      have hpn := prs_len2 l
      have HQ := hid (rdq_own hown hpn)
      have HBW1 := hid (HBW.out.trans (be1.mono (by have := HBW.out.size; have := HN.out; omega)))
      have u0 := (be1.block N (Array.getElem?_eq_some_iff.1 v0).1).trans v0
      have u1 : Boxed W1 (N + 1) 4 (.bool false) := (be1.block _ v1.lt).trans v1
      have u2 : Boxed W1 M 9 (.string ⟨p.toArray⟩) := (be1.block _ v2.lt).trans v2
      have HK1 := hid (show W1.heap[D]? = some (.deferred (some [])) from (be1.block D (Array.getElem?_eq_some_iff.1 hK).1).trans hK)
      have HU := hid (And.intro u0 (And.intro u1 u2))
      have hW1s := be1.size
      obtain ⟨m, hm⟩ : ∃ m, m = (rl l).length := ⟨_, rfl⟩
      rw [hpn, ← hm]
      have hml : m ≤ 100 := by rw [hm, ← hpn]; exact Nat.le_trans (prs_len l) hl
      have HM := hid hm
      clear hown hpn be1 v0 v1 v2 hK hm u0 u1 u2 hb
      gi_wp2
      gi_loopw [13] (fun v wr => ∃ i : Nat, v = .int .i64 i ∧ i ≤ m ∧ Hid (∀ k (h : k < (rl l).length), k < i → gc (rl l)[k] ≠ 6) ∧ wr = W1) (fun v _ => m - (intOf v).toNat)
      case atStart => exact ⟨0, rfl, Nat.zero_le _, fun k _ h => by omega, rfl⟩
      case round =>
        obtain ⟨i, rfl, him, HI, rfl⟩ := hrel
        by_cases hlt : i < m
        · have hlti : (i : Int) < (m : Int) := by omega
          have hil : i < (rl l).length := by rw [← HM.out]; exact hlt
          obtain ⟨ad, rfl, _, hcell⟩ := HQ.out i ((rl l)[i]) (List.getElem?_eq_getElem hil)
          obtain ⟨r, hr⟩ : ∃ r : Int, r = (((rl l)[i]).1 : Int) := ⟨_, rfl⟩
          have HR := hid (show gpcls r = gc (rl l)[i] by rw [hr]; rfl)
          rw [← hr] at hcell
          clear hr
          gi_wp2_with fail
          refine ⟨trivial, (callsIn_wide.2 (gpcls_any r _)).mono ?_⟩
          rintro e W2 ⟨rfl, hW2⟩
          obtain rfl := hW2.symm
          clear hW2
          obtain ⟨kc, hkc⟩ : ∃ k, k = gpcls r := ⟨_, rfl⟩
          rw [← hkc] at HR ⊢
          clear hkc
          by_cases h6 : kc = 6
          · subst h6
            gi_wp2_with fail
            refine ⟨trivial, (callsIn_wide.2 (HLV.out _ HBW1.out)).mono ?_⟩
            rintro e W3 ⟨rfl, be3⟩
            have w1 : Boxed W3 (N + 1) 4 (.bool false) := (be3.block _ HU.out.2.1.lt).trans HU.out.2.1
            have HK3 := hid ((be3.block D (Array.getElem?_eq_some_iff.1 HK1.out).1).trans HK1.out)
            have HB3 := hid (HBW1.out.trans (be3.mono (by have := HBW1.out.size; have := HN.out; omega)))
            have fw := w1.frozen
            have ew := w1.cell
            clear be3
            gi_wp2
            have y1 := w1.set (.bool true)
            have HKX := hid ((KeepsOthers.setCell W3 ⟨N + 1, 0, none⟩ (.bool true)).same D _ HK3.out rfl)
            have HBX := hid (HB3.out.setCell (p := ⟨N + 1, 0, none⟩) (by simp) (.bool true))
            have hKx := HKX.out
            have cz := cell_kept y1.cell (grownBy_putObj' _ D (.deferred none)) (fun r e => by cases e; exact ⟨_, hKx, rfl⟩)
            refine ⟨by simp, .inl ⟨_, _, rfl, run_takeDeferred hKx, ?_⟩⟩
            refine ⟨.bool true, ?_, rfl, ?_⟩
            · simp [results, Tryd.f6, go_sem, cz]
            · have hn := HN.out
              rw [← hn]
              exact HBX.out.trans (belowK_b (w := w) (by omega) _ D _ _ (by have := HS6.out; omega) hKx rfl rfl)
          · have k6 : (kc == 6) = false := beq_eq_false_iff_ne.2 h6
            have HI2 := hid (show ∀ k (h : k < (rl l).length), k < i + 1 → gc (rl l)[k] ≠ 6 from fun k h hk => by
              rcases Nat.lt_or_ge k i with h1 | h1
              · exact HI.out k h h1
              · obtain rfl : k = i := by omega
                rw [← HR.out]; exact h6)
            clear h6
            gi_wp2
            go_roundw
            case rel => exact ⟨i + 1, by go_num, by omega, HI2, trivial⟩
            case measure => simp [intOf]; omega
        · have hlti : ¬ (i : Int) < (m : Int) := by omega
          have HNM := hid (show ∀ r ∈ rl l, gc r ≠ 6 from fun r hr => by
            obtain ⟨k, hk, rfl⟩ := List.mem_iff_getElem.1 hr
            exact HI.out k hk (by have := HM.out; omega))
          have HEQ := hid (HPT.out HNM.out)
          have c0 := cel_cells HU.out.1
          have c2 := HU.out.2.2.cell
          have HSK := hid (fun (W : World) (h : Below (_ : World).heap.size _ W) => And.intro ((h.cell (p := ⟨M, 0, none⟩) HU.out.2.2.lt).trans c2) (c0.kept h (Array.getElem?_eq_some_iff.1 HU.out.1).1))
          gi_wp2
          refine wpIn_region_mixW _ [(0, true), (1, true), (3, true), (4, true), (2, false), (5, false), (6, true), (7, true), (8, false), (9, true), (10, false)] (fun w' => w'.cell? ⟨M, 0, none⟩ = some (.string ⟨p.toArray⟩) ∧ Cel w' N a t s) (fun j => j == 10) (by kernel_rfl) (by kernel_rfl) (by kernel_rfl) ?hs2 rfl (by kernel_rfl) (HSK.out _ ((Below.refl _ _).drew)) ?hm2
          case hs2 =>
            intro j hj
            have e : j = 10 := by simpa using hj
            subst e
            decide
          iterate 4 (refine mix_free ?_ rfl (by kernel_rfl) (fun w' hS => ?_) ?_; (rotate_left; (obtain ⟨s1, s2, s3, s4⟩ := hS; go_simp; with_reducible rfl); rotate_left))
          refine mix_go rfl (by kernel_rfl) fun KK hKK => ?_
          go_simp
          refine (wtext_any p a t s _ (HTT.out _ HBW1.out.drew) (by omega) HK.out).mono ?_
          rintro e W3 ⟨rfl, be3⟩
          rw [HEQ.out]
          obtain ⟨v, hv⟩ : ∃ v, v = colP l a t s (gpF l 0) := ⟨_, rfl⟩
          rw [← hv]
          have HV := hid hv
          have HB3 := hid (HBW1.out.drew.trans (be3.mono (by have := HBW1.out.drew.size; have := HN.out; omega)))
          have HE3 := hid (((Below.refl _ _).drew).trans be3)
          refine hKK _ _ (fun _ => HSK.out _ HE3.out) ?_
          clear hKK KK be3 hv
          refine mix_go rfl (by kernel_rfl) fun KK hKK => ?_
          go_simp
          refine (wtext_any l a t s W3 (HTT.out _ HB3.out) (by omega) HK.out).mono ?_
          rintro e W4 ⟨rfl, be4⟩
          rw [← HV.out]
          have HB4 := hid (HB3.out.trans (be4.mono (by have := HB3.out.size; have := HN.out; omega)))
          have HE4 := hid (HE3.out.trans (be4.mono HE3.out.size))
          refine hKK _ _ (fun _ => HSK.out _ HE4.out) ?_
          clear hKK KK be4
          have vv : (v == v) = true := beq_self_eq_true v
          iterate 2 (refine mix_free ?_ rfl (by kernel_rfl) (fun w' hS => ?_) ?_; (rotate_left; (go_simp; with_reducible rfl); rotate_left))
          refine mix_go rfl (by kernel_rfl) fun KK hKK => ?_
          go_simp
          refine (HLV.out _ HB4.out).mono ?_
          rintro e W5 ⟨rfl, be5⟩
          have HB5 := hid (HB4.out.trans (be5.mono (by have := HB4.out.size; have := HN.out; omega)))
          have HE5 := hid (HE4.out.trans (be5.mono HE4.out.size))
          refine hKK _ _ (fun _ => HSK.out _ HE5.out) ?_
          clear hKK KK be5
          refine mix_free ?_ rfl (by kernel_rfl) (fun w' hS => ?_) ?_; (rotate_left; (go_simp; with_reducible rfl); rotate_left)
          refine mix_go rfl (by kernel_rfl) fun KK hKK => ?_
          have w1 : Boxed W5 (N + 1) 4 (.bool false) := (HE5.out.block _ HU.out.2.1.lt).trans HU.out.2.1
          have fw := w1.frozen
          have ew := w1.cell
          go_simp
          refine hKK _ _ (fun h => by cases h) ?_
          clear hKK KK fw ew
          refine mix_end (OnlyN.in ?_)
          have HK5 := hid ((HE5.out.block D (Array.getElem?_eq_some_iff.1 HK1.out).1).trans HK1.out)
          gi_wp2
          have y1 := w1.set (.bool true)
          have HKX := hid ((KeepsOthers.setCell W5 ⟨N + 1, 0, none⟩ (.bool true)).same D _ HK5.out rfl)
          have HBX := hid (HB5.out.setCell (p := ⟨N + 1, 0, none⟩) (by simp) (.bool true))
          have hKx := HKX.out
          have cz := cell_kept y1.cell (grownBy_putObj' _ D (.deferred none)) (fun r e => by cases e; exact ⟨_, hKx, rfl⟩)
          refine ⟨by simp, .inl ⟨_, _, rfl, run_takeDeferred hKx, ?_⟩⟩
          refine ⟨.bool true, ?_, rfl, ?_⟩
          · simp [results, Tryd.f6, go_sem, cz]
          · have hn := HN.out
            rw [← hn]
            exact HBX.out.trans (belowK_b (w := w) (by omega) _ D _ _ (by have := HS6.out; omega) hKx rfl rfl)
    case stop2 =>
      rintro D c pre W _ _ h _
      exact h.elim
end Go.Proofs.YtlfegdpclappiaaDoor
/- WidthFits at every text and every Cells. -/
namespace Go.Proofs.YtlfegdpclappiaaDoor
open Go.RowKit Go.Shelf

set_option maxHeartbeats 2000000 in
theorem fits_main (l : List UInt8) (z a t s : Int) (w : World) (hl : l.length ≤ 281474976710656) (htb : Ev.Tbs tabs w) (ht : TbW w) :
    Calls Tryd.prog 6 #[.string ⟨l.toArray⟩, .int .i64 z, .agg #[.int .i64 a, .int .i64 t, .int .i64 s]] w fun e w' => e = .returned (.bool true) ∧ Below w.heap.size w w' := by
  have b1 := Boxed.new (w.alloc (.cells #[.int .i64 a, .int .i64 t, .int .i64 s] 36)) 4 (.bool false)
  have hB0 : Below w.heap.size w ((w.alloc (.cells #[.int .i64 a, .int .i64 t, .int .i64 s] 36)).alloc (.cells #[.bool false] 4)) := ((Below.refl _ _).alloc (Nat.le_refl _) _).alloc (by simp) _
  have hsz0 : ((w.alloc (.cells #[.int .i64 a, .int .i64 t, .int .i64 s] 36)).alloc (.cells #[.bool false] 4)).heap.size = w.heap.size + 2 := by simp
  rw [World.size_alloc] at b1
  by_cases hbig : 100 < l.length
  · have hbi : (100 : Int) < (l.length : Int) := by omega
    have HTB := hid (tbs_below htb hB0)
    have HB0 := hid hB0
    clear htb ht hB0
    go_enter Tryd.func6, Tryd.ntmps6
    go_wp2_with fail
    refine (lives_width _ HTB.out).mono ?_
    rintro e w2 ⟨rfl, be2⟩
    have w1 : Boxed w2 (w.heap.size + 1) 4 (.bool false) := (be2.block _ (by omega)).trans b1
    have HB2 := hid (HB0.out.trans (be2.mono HB0.out.size))
    have fw := w1.frozen
    have ew := w1.cell
    clear be2 b1 hsz0
    go_wp2
    have cz := (w1.set (.bool true)).cell
    refine bodyPost_ret (v := .bool true) (by simp [results, Tryd.f6, go_sem, cz]) rfl ?_
    exact ⟨rfl, HB2.out.setCell (p := ⟨w.heap.size + 1, 0, none⟩) (by simp) (.bool true)⟩
  by_cases hk : Okc a t s
  · exact callsIn_wide.1 (fits_in l z a t s w (by omega) htb ht hk)
  · have hbi : ¬ (100 : Int) < (l.length : Int) := by omega
    have HCK := hid (show chkE a t s = 2 by unfold chkE; rw [if_neg (fun h => hk ((okc_is a t s).1 h))])
    have HTB := hid (fun W (h : Below w.heap.size w W) => tbs_below htb h)
    have HB0 := hid hB0
    clear htb ht hB0 hk
    go_enter Tryd.func6, Tryd.ntmps6
    go_wp2_with fail
    refine (wcheck_any a t s _).mono ?_
    rintro e w1 ⟨rfl, be1⟩
    rw [HCK.out]
    have b11 : Boxed w1 (w.heap.size + 1) 4 (.bool false) := (be1.block _ (by omega)).trans b1
    have HB1 := hid (HB0.out.trans (be1.mono HB0.out.size))
    clear be1 b1 hsz0
    go_wp2_with fail
    refine (wnum_any 2 w1).mono ?_
    rintro e w2 ⟨rfl, hw2⟩
    obtain rfl := hw2.symm
    clear hw2
    go_wp2_with fail
    refine (lives_width _ (HTB.out _ HB1.out)).mono ?_
    rintro e w3 ⟨rfl, be3⟩
    have w1' : Boxed w3 (w.heap.size + 1) 4 (.bool false) := (be3.block _ b11.lt).trans b11
    have HB3 := hid (HB1.out.trans (be3.mono HB1.out.size))
    have fw := w1'.frozen
    have ew := w1'.cell
    clear be3 b11
    go_wp2
    have cz := (w1'.set (.bool true)).cell
    refine bodyPost_ret (v := .bool true) (by simp [results, Tryd.f6, go_sem, cz]) rfl ?_
    exact ⟨rfl, HB3.out.setCell (p := ⟨w.heap.size + 1, 0, none⟩) (by simp) (.bool true)⟩
end Go.Proofs.YtlfegdpclappiaaDoor
