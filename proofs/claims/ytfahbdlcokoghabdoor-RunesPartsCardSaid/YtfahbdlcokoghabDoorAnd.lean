/- The contracts of And and Minus (package runes). -/
import Derived.Test.YtfahbdlcokoghabDoorSetMath
namespace Go.Proofs.YtfahbdlcokoghabDoor
open Go.RowKit

/-- A slice that stands at a place of a row. -/
def SlAt (v : Value) (g n i : Nat) : Prop := i ≤ n ∧ ∃ xo xc, v = .slice xo (n - i) xc ∧ (i < n → xo = some ⟨g, i * 2, none⟩ ∧ n - i ≤ xc ∧ xc ≤ 9223372036854775807)

theorem slAt_next {g n i xc : Nat} (hi : i < n) (hx : n - i ≤ xc) (h9 : xc ≤ 9223372036854775807) : SlAt (.slice (if xc = 1 then some ⟨g, i * 2, none⟩ else some ⟨g, i * 2 + 2, none⟩) (n - i - 1) (xc - 1)) g n (i + 1) := by
  refine ⟨hi, _, _, by rw [Nat.sub_sub], fun h => ⟨?_, by omega, by omega⟩⟩
  rw [if_neg (by omega), Nat.add_mul]
theorem slAt_keep {g n i xc : Nat} (hi : i ≤ n) (hx : n - i ≤ xc) (h9 : xc ≤ 9223372036854775807) : SlAt (.slice (some ⟨g, i * 2, none⟩) (n - i) xc) g n i := ⟨hi, _, _, rfl, fun _ => ⟨rfl, hx, h9⟩⟩
theorem slAt_row {w : World} {B : Nat} {v : Value} {l : List Rg} (h : w.ownsRow B 46 2 v l.length (rgcs l)) : ∃ g, SlAt v g l.length 0 ∧ ∀ (k : Nat) (x : Rg), l[k]? = some x → g < w.heap.size ∧ w.cell? ⟨g, k * 2, none⟩ = some (.int .i32 x.1) ∧ w.cell? ⟨g, k * 2 + 1, none⟩ = some (.int .i32 x.2) := by
  rcases h.2 with ⟨h1, h2⟩ | ⟨g, cap, cur, h1, h2, h3, h4, h5, h6, h7⟩
  · have hl : l = [] := List.length_eq_zero_iff.1 h2
    subst hl
    exact ⟨0, ⟨Nat.le_refl _, none, 0, h1, fun h => (by simp at h)⟩, fun k x hk => (by cases hk)⟩
  · subst h1
    refine ⟨g, ⟨Nat.zero_le _, _, _, rfl, fun _ => ⟨rfl, by omega, by unfold maxLen at h5; omega⟩⟩, fun k x hk => ⟨(Array.getElem?_eq_some_iff.1 h3).1, row_cell h k x hk⟩⟩

set_option maxRecDepth 100000 in
set_option maxHeartbeats 3000000 in
theorem and_any (ao bo : Option Addr) (ac bc : Nat) (a b : List Rg) (w : World) (ha : RdR w ao a) (hb : RdR w bo b) (h1 : a.length ≤ 40000) (h2 : b.length ≤ 40000) :
    Calls Tryd.prog 11 #[.slice ao a.length ac, .slice bo b.length bc] w fun e w' => ∃ v, e = .returned v ∧ w'.ownsRow w.heap.size 46 2 v (andN a b).length (rgcs (andN a b)) ∧ Below w.heap.size w w' := by
  obtain ⟨i0, hi, hz0, hz1, hz2⟩ := info_parts Tryd.info46
  have HA := hid (norm_any ao ac a w ha (by omega))
  have HBR := hid hb
  have HAN := hid (show andN a b = andF ((nrm a).length + (nrm b).length) (nrm a) (nrm b) from rfl)
  have la := nrm_len a
  have lb := nrm_len b
  have HNA := hid (nrm_nf a)
  have HNB := hid (nrm_nf b)
  have HB0 := hid (fun w' hw' => norm_any bo bc b w' hw' (by omega))
  obtain ⟨A, hA⟩ : ∃ A, A = nrm a := ⟨_, rfl⟩
  obtain ⟨B, hB⟩ : ∃ B, B = nrm b := ⟨_, rfl⟩
  rw [← hA] at HA HAN la HNA
  rw [← hB] at HAN lb HNB HB0
  clear ha hb hA hB
  go_enter Tryd.func11, Tryd.ntmps11
  go_wp2_with fail
  refine HA.out.mono ?_
  rintro e w1 ⟨v1, rfl, o1, hb1⟩
  have HN := hid (HB0.out w1 (HBR.out.below hb1))
  have HB1 := hid hb1
  have HO1 := hid o1
  clear o1 hb1 HA HB0
  go_wp2_with fail
  refine HN.out.mono ?_
  rintro e w2 ⟨v2, rfl, o2, hb2⟩
  have HB2 := hid (HB1.out.trans (hb2.mono HB1.out.size))
  have HOA := hid (ownsRow_below HO1.out hb2)
  have HOB := hid o2
  have hs2 := HB2.out.size
  obtain ⟨ga, sa0, hca⟩ := slAt_row HOA.out
  obtain ⟨gb, sb0, hcb⟩ := slAt_row HOB.out
  have HCA := hid hca
  have HCB := hid hcb
  have SA0 := hid sa0
  have SB0 := hid sb0
  obtain ⟨_, xa, ca, hva, _⟩ := sa0
  obtain ⟨_, xb, cb, hvb, _⟩ := sb0
  rw [Nat.sub_zero] at hva hvb
  subst hva
  subst hvb
  clear hca hcb o2 hb2 HN HO1 HB1 HOA HOB
  go_wp2
  go_loopw [0, 1, 5] (fun va vb vo wq => ∃ (i j : Nat) (O : List Rg), Hid (SlAt va ga A.length i) ∧ Hid (SlAt vb gb B.length j) ∧ Hid (wq.ownsRow w2.heap.size 46 2 vo O.length (rgcs O)) ∧ Hid (Anm A B O i j) ∧ O.length ≤ i + j ∧ i ≤ A.length ∧ j ≤ B.length ∧ Hid (Below w2.heap.size w2 wq)) (fun va vb _ _ => match va, vb with | .slice _ n _, .slice _ m _ => n + m | _, _ => 0)
  case atStart => exact ⟨0, 0, [], SA0, SB0, World.ownsRow_nil _ _ _ _, Anm.start A B, by simp, by omega, by omega, Below.refl _ _⟩
  case round =>
    obtain ⟨i, j, O, HSa, HSb, HO, HM, hol, hiA, hjB, HB⟩ := hrel
    obtain ⟨_, xo, xc, rfl, hxa⟩ := HSa.out
    obtain ⟨_, yo, yc, rfl, hyb⟩ := HSb.out
    have hbs := HB.out.size
    by_cases hil : i < A.length
    · have i1 : (0 : Int) < ((A.length - i : Nat) : Int) := by omega
      by_cases hjl : j < B.length
      · have j1 : (0 : Int) < ((B.length - j : Nat) : Int) := by omega
        obtain ⟨rfl, hxc, hxc9⟩ := hxa hil
        obtain ⟨rfl, hyc, hyc9⟩ := hyb hjl
        obtain ⟨ga1, ga2, ga3⟩ := HCA.out i A[i] (List.getElem?_eq_getElem hil)
        obtain ⟨gb1, gb2, gb3⟩ := HCB.out j B[j] (List.getElem?_eq_getElem hjl)
        obtain ⟨n1, n2, n3⟩ := nf_at HNA.out (List.getElem?_eq_getElem hil)
        obtain ⟨m1, m2, m3⟩ := nf_at HNB.out (List.getElem?_eq_getElem hjl)
        unfold top at n3 m3
        have HST := hid (fun lo hi' => Anm.step HM.out hil hjl lo hi')
        generalize A[i].1 = a0 at *
        generalize A[i].2 = a1 at *
        generalize B[j].1 = b0 at *
        generalize B[j].2 = b1 at *
        have c0 := (HB.out.cell (p := ⟨ga, i * 2, none⟩) ga1).trans ga2
        have c1 := (HB.out.cell (p := ⟨ga, i * 2 + 1, none⟩) ga1).trans ga3
        have d0 := (HB.out.cell (p := ⟨gb, j * 2, none⟩) gb1).trans gb2
        have d1 := (HB.out.cell (p := ⟨gb, j * 2 + 1, none⟩) gb1).trans gb3
        have HA1 := hid (show ∀ W, Below w2.heap.size w2 W → W.cell? ⟨ga, i * 2 + 1, none⟩ = some (.int .i32 a1) from fun W hW => (hW.cell (p := ⟨ga, i * 2 + 1, none⟩) ga1).trans ga3)
        obtain ⟨lo, hlo⟩ : ∃ lo : Int, lo = max a0 b0 := ⟨_, rfl⟩
        obtain ⟨hh, hhh⟩ : ∃ hh : Int, hh = min a1 b1 := ⟨_, rfl⟩
        have HS4 := hid (HST.out lo hh hlo hhh)
        have HLO := hid hlo
        have HHH := hid hhh
        have g1 : 0 ≤ lo := by omega
        have g2 : hh ≤ 1114111 := by omega
        clear HST HM ga2 ga3 gb2 gb3 hlo hhh hxa hyb
        go_wp2_with fail
        go_quiet (fail)
        rw [← HLO.out, ← HHH.out]
        have hdr : Below w2.heap.size w2 (wr.drewN nq) := below_drewN HB.out nq
        have HOd := hid (show (wr.drewN nq).ownsRow w2.heap.size 46 2 u5 O.length (rgcs O) from HO.out)
        have hsd : w2.heap.size ≤ (wr.drewN nq).heap.size := hdr.size
        have e1 := HA1.out _ hdr
        obtain ⟨wd, hwd⟩ : ∃ wd, wd = wr.drewN nq := ⟨_, rfl⟩
        rw [← hwd] at hdr HOd hsd e1 ⊢
        have HBd := hid hdr
        clear hdr hwd HB HO c0 c1 d0 d1
        by_cases hc : lo ≤ hh
        · go_wp2_with (at_builtin; refine wpList_append_own _ rfl _ _ 22 rfl w2.heap.size 46 i0 (.agg #[.int .i32 0, .int .i32 0]) 2 8 Tryd.underlying22 hi hz0 hz1 hz2 rfl (by decide) _ O.length (rgcs O) rfl (HOd.out.alloc _) ⟨wd.heap.size, 0, none⟩ 1 1 (rgc (lo, hh)) rfl rfl ?c1 ?c2 ?c3 ?c4 ?c5 ?_)
          case c1 => exact app_news _ (lo, hh) _ rfl
          case c2 => exact rgc_one _
          case c3 => unfold maxLen; omega
          case c4 => omega
          case c5 => simp; omega
          intro v3 w3 o3 gr3 _
          have HO3 := hid (show w3.ownsRow w2.heap.size 46 2 v3 (O ++ [(lo, hh)]).length (rgcs (O ++ [(lo, hh)])) by rw [rgcs_snoc, len_snoc]; exact o3)
          have HB3 := hid ((HBd.out.alloc (by omega) (.cells #[.int .i32 lo, .int .i32 hh] 46)).grown gr3 (by simp; omega) (fun j hj => (HOd.out.lt j hj).1))
          replace e1 := HA1.out w3 HB3.out
          clear o3 gr3
          by_cases hq : a1 = hh
          · have HM2 := hid (HS4.out.1 hc hq)
            have hq' : (a1 == hh) = true := beq_iff_eq.2 hq
            clear HS4
            go_wp2
            refine ⟨⟨i + 1, j, O ++ [(lo, hh)], slAt_next hil hxc hxc9, slAt_keep (by omega) hyc hyc9, HO3, HM2, ?_, by omega, by omega, HB3⟩, ?_⟩
            · rw [len_snoc]; omega
            · show _ + _ < _ + _
              omega
          · have HM2 := hid (HS4.out.2.1 hc hq)
            have hq' : (a1 == hh) = false := beq_eq_false_iff_ne.2 hq
            clear HS4
            go_wp2
            refine ⟨⟨i, j + 1, O ++ [(lo, hh)], slAt_keep (by omega) hxc hxc9, slAt_next hjl hyc hyc9, HO3, HM2, ?_, by omega, by omega, HB3⟩, ?_⟩
            · rw [len_snoc]; omega
            · show _ + _ < _ + _
              omega
        · by_cases hq : a1 = hh
          · have HM2 := hid (HS4.out.2.2.1 (by omega) hq)
            have hq' : (a1 == hh) = true := beq_iff_eq.2 hq
            clear HS4
            go_wp2
            refine ⟨⟨i + 1, j, O, slAt_next hil hxc hxc9, slAt_keep (by omega) hyc hyc9, HOd, HM2, ?_, by omega, by omega, HBd⟩, ?_⟩
            · omega
            · show _ + _ < _ + _
              omega
          · have HM2 := hid (HS4.out.2.2.2 (by omega) hq)
            have hq' : (a1 == hh) = false := beq_eq_false_iff_ne.2 hq
            clear HS4
            go_wp2
            refine ⟨⟨i, j + 1, O, slAt_keep (by omega) hxc hxc9, slAt_next hjl hyc hyc9, HOd, HM2, ?_, by omega, by omega, HBd⟩, ?_⟩
            · omega
            · show _ + _ < _ + _
              omega
      · have HD := hid (HM.out.done (.inr (by omega)))
        have c1 : ¬ (0 : Int) < ((B.length - j : Nat) : Int) := by omega
        clear HM hxa hyb
        go_wp2
        go_ret
        exact ⟨_, rfl, by rw [HAN.out, ← HD.out]; exact ownsRow_base2 HO.out HB2.out.size, HB2.out.trans (HB.out.mono HB2.out.size)⟩
    · have HD := hid (HM.out.done (.inl (by omega)))
      have c1 : ¬ (0 : Int) < ((A.length - i : Nat) : Int) := by omega
      clear HM hxa hyb
      go_wp2
      go_ret
      exact ⟨_, rfl, by rw [HAN.out, ← HD.out]; exact ownsRow_base2 HO.out HB2.out.size, HB2.out.trans (HB.out.mono HB2.out.size)⟩

end Go.Proofs.YtfahbdlcokoghabDoor

