/- The contracts of cased, mark, goesOn and parts (package sentence). -/
import Derived.Test.YtckifhlhechdlaaDoorSnHas
namespace Go.Proofs.YtckifhlhechdlaaDoor
open Go.RowKit

theorem goR_cons (c : Int) (B : List Int) : goR (c :: B) = if shas 14609 c then goR B else c == 5 := rfl
set_option maxHeartbeats 1000000 in
theorem scased_any (l : List UInt8) (w : World) (ht : TbW w) (hl : l.length ≤ 1000000000) :
    Calls Tryd.prog 45 #[.string ⟨l.toArray⟩] w fun e w' => e = .returned (.bool (csdR (bk l))) ∧ Below w.heap.size w w' := by
  have HT := hid ht
  have HL := hid (swth_le 8192 _ l (Nat.le_refl _))
  have HV := hid (show csdR (bk l) = (slast (swth 8192 l) == 6 || slast (swth 8192 l) == 5) by unfold csdR; rw [← swth_bk 8192 _ l (Nat.le_refl _), ← slast_hd])
  clear ht
  go_enter Tryd.func45, Tryd.ntmps45
  go_wp2_with fail
  refine (swth_any 8192 l w HT.out hl).mono ?_
  rintro e w1 ⟨rfl, be⟩
  have HB1 := hid be
  clear be
  go_wp2_with fail
  refine (slast_any (swth 8192 l) w1 (HT.out.below HB1.out) (by have := HL.out; omega)).mono ?_
  rintro e w2 ⟨rfl, be⟩
  have HB2 := hid (HB1.out.trans (be.mono HB1.out.size))
  obtain ⟨c, hc⟩ : ∃ c, c = slast (swth 8192 l) := ⟨_, rfl⟩
  obtain ⟨m, hm⟩ : ∃ m : Nat, m = (decLast (swth 8192 l)).2 := ⟨_, rfl⟩
  rw [← hc] at HV
  rw [← hc, ← hm]
  clear hc hm be
  by_cases h6 : c = 6
  · subst h6
    go_wp2
    go_ret
    exact ⟨by rw [HV.out]; rfl, HB2.out⟩
  · have b6 : (c == 6) = false := beq_eq_false_iff_ne.2 h6
    rw [b6, Bool.false_or] at HV
    go_wp2
    go_ret
    exact ⟨by rw [HV.out]; rfl, HB2.out⟩
set_option maxHeartbeats 1000000 in
theorem smark_any (l : List UInt8) (w : World) (ht : TbW w) (hl : l.length ≤ 1000000000) :
    Calls Tryd.prog 46 #[.string ⟨l.toArray⟩] w fun e w' => e = .returned (.int .i64 (mrkR (bk l))) ∧ Below w.heap.size w w' := by
  have HT := hid ht
  have HL := hid (swth_le 8208 _ l (Nat.le_refl _))
  have HL2 := hid (swth_le 10240 _ (swth 8208 l) (Nat.le_refl _))
  have HV := hid (show mrkR (bk l) = slast (swth 10240 (swth 8208 l)) by unfold mrkR; rw [← swth_bk 8208 _ l (Nat.le_refl _), ← swth_bk 10240 _ _ (Nat.le_refl _), ← slast_hd])
  clear ht
  go_enter Tryd.func46, Tryd.ntmps46
  go_wp2_with fail
  refine (swth_any 8208 l w HT.out hl).mono ?_
  rintro e w1 ⟨rfl, be⟩
  have HB1 := hid be
  clear be
  go_wp2_with fail
  refine (swth_any 10240 (swth 8208 l) w1 (HT.out.below HB1.out) (by have := HL.out; omega)).mono ?_
  rintro e w2 ⟨rfl, be⟩
  have HB2 := hid (HB1.out.trans (be.mono HB1.out.size))
  clear be
  go_wp2_with fail
  refine (slast_any (swth 10240 (swth 8208 l)) w2 (HT.out.below HB2.out) (by have := HL.out; have := HL2.out; omega)).mono ?_
  rintro e w3 ⟨rfl, be⟩
  have HB3 := hid (HB2.out.trans (be.mono HB2.out.size))
  obtain ⟨c, hc⟩ : ∃ c, c = slast (swth 10240 (swth 8208 l)) := ⟨_, rfl⟩
  obtain ⟨m, hm⟩ : ∃ m : Nat, m = (decLast (swth 10240 (swth 8208 l))).2 := ⟨_, rfl⟩
  rw [← hc] at HV
  rw [← hc, ← hm]
  clear hc hm be
  go_wp2
  go_ret
  exact ⟨by rw [HV.out]; rfl, HB3.out⟩
set_option maxHeartbeats 1000000 in
theorem sgoes_any (l : List UInt8) (w : World) :
    Calls Tryd.prog 47 #[.string ⟨l.toArray⟩] w fun e w' => e = .returned (.bool (goR (fw l))) ∧ Below w.heap.size w w' := by
  have HSZ := hid (show (⟨l.toArray⟩ : ByteArray).size = l.length by show l.toArray.size = _; simp)
  have HB0 := hid ((Below.refl w.heap.size w).alloc (Nat.le_refl _) (.stringIter ⟨l.toArray⟩ 0))
  have HIT0 := hid (World.iter_heap w ⟨l.toArray⟩ 0)
  go_enter Tryd.func47, Tryd.ntmps47
  go_wp2
  go_loopw [4, 5] (fun _ _ wr => ∃ t : Nat, Hid (goR (fw l) = goR (fw (l.drop t))) ∧ Hid (wr.heap[w.heap.size]? = some (.stringIter ⟨l.toArray⟩ t)) ∧ Hid (Below w.heap.size w wr)) (fun _ _ wr => l.length - wr.iterPos w.heap.size)
  case atStart => exact ⟨0, rfl, HIT0, HB0⟩
  case round =>
    obtain ⟨t, HP, HI, HB⟩ := hrel
    have hin : w.heap.size < wr.heap.size := (Array.getElem?_eq_some_iff.1 HI.out).1
    by_cases hlt : t < l.length
    · have hnx := wnext_at (P := Tryd.prog) wr w.heap.size ⟨l.toArray⟩ t 0 HI.out (by rw [HSZ.out]; exact hlt)
      rw [decode_place l t hlt] at hnx
      have hne := drop_ne l t hlt
      have d1 := dec_ge _ hne
      have HG := hid (HP.out.trans (congrArg goR (fw_cons (l.drop t) hne)))
      rw [List.drop_drop, goR_cons] at HG
      have HWF := hid (show sfirst (l.drop t) = sncls ((dec (l.drop t)).1 : Int) from rfl)
      obtain ⟨nn, hnn⟩ : ∃ nn, nn = (dec (l.drop t)).2 := ⟨_, rfl⟩
      obtain ⟨rr, hrr⟩ : ∃ rr : Int, rr = ((dec (l.drop t)).1 : Int) := ⟨_, rfl⟩
      rw [← hnn] at hnx d1 HG
      rw [← hrr] at hnx HWF
      rw [HWF.out] at HG
      obtain ⟨w1, hw1⟩ : ∃ w1, w1 = wr.putObj w.heap.size (.stringIter ⟨l.toArray⟩ (t + nn)) := ⟨_, rfl⟩
      rw [← hw1] at hnx
      have HI1 := hid (show w1.heap[w.heap.size]? = some (.stringIter ⟨l.toArray⟩ (t + nn)) by rw [hw1]; exact World.putObj_heap_same hin)
      have HB1 := hid (show Below w.heap.size w w1 by rw [hw1]; exact HB.out.trans ⟨rfl, rfl, rfl, by simp [World.putObj], fun j hj => World.putObj_heap_other (by omega)⟩)
      have HM := hid (show l.length - wr.iterPos w.heap.size = l.length - t by unfold World.iterPos; rw [HI.out])
      clear hnn hrr hw1 HI HB hne HWF
      go_wp2_with fail
      refine (sncls_any rr w1).mono ?_
      rintro e w2 ⟨rfl, hw2⟩
      obtain rfl := hw2.symm
      clear hw2
      obtain ⟨c0, c1⟩ := sn_bd rr
      obtain ⟨c, hc⟩ : ∃ c, c = sncls rr := ⟨_, rfl⟩
      rw [← hc] at HG c0 c1
      rw [← hc]
      clear hc hnx
      go_wp2_with fail
      refine (shas_any 14609 _ c w1 rfl c0 c1).mono ?_
      rintro e w2 ⟨rfl, hw2⟩
      obtain rfl := hw2.symm
      clear hw2
      obtain ⟨b, hb⟩ : ∃ b, b = shas 14609 c := ⟨_, rfl⟩
      rw [← hb] at HG
      rw [← hb]
      clear hb
      cases b with
      | true =>
        go_wp2
        go_roundw
        case rel => exact ⟨t + nn, HG, HI1, HB1⟩
        case measure =>
          rw [HM.out]
          unfold World.iterPos
          rw [HI1.out]
          simp only []
          omega
      | false =>
        have HE := hid (show goR (fw l) = (c == 5) from HG.out)
        clear HG
        go_wp2
        go_ret
        exact ⟨by rw [HE.out]; rfl, HB1.out⟩
    · have hnx := wnext_stop (P := Tryd.prog) wr w.heap.size ⟨l.toArray⟩ t 0 HI.out (by rw [HSZ.out]; exact hlt)
      have HE := hid (show goR (fw l) = false by rw [HP.out, List.drop_of_length_le (by omega)]; rfl)
      go_wp2
      go_ret
      exact ⟨by rw [HE.out]; rfl, HB.out⟩
/-- What parts answers behind its tests. -/
def prtT (A B : List Int) : Bool := if mrkR A == 10 then true else if mrkR A == 9 then !goR B else false
set_option maxHeartbeats 2000000 in
theorem sparts_any (a b : List UInt8) (w : World) (ht : TbW w) (hl : a.length ≤ 1000000000) :
    Calls Tryd.prog 41 #[.string ⟨a.toArray⟩, .string ⟨b.toArray⟩] w fun e w' => e = .returned (.bool (prtR (bk a) (fw b))) ∧ Below w.heap.size w w' := by
  have HT := hid ht
  have HL := hid (swth_le 8192 _ a (Nat.le_refl _))
  obtain ⟨d, hd⟩ : ∃ d, d = swth 8192 a := ⟨_, rfl⟩
  have HV := hid (show prtR (bk a) (fw b) = if sfirst b == 11 && slast d != 4 then false else if slast d == 9 && sfirst b == 8 then false else
      if slast d == 9 && sfirst b == 6 && csdR (bk d).tail then false else prtT (bk d) (fw b) by
    rw [hd]
    unfold prtR prtT
    rw [slast_hd, sfirst_hd, swth_bk 8192 _ a (Nat.le_refl _)])
  have HBL := hid (show slast d = 9 → 1 ≤ (decLast d).2 ∧ (decLast d).2 ≤ d.length from fun h => slast_bd d (fun e => by rw [e, slast_nil] at h; cases h))
  have HTL := hid (show slast d = 9 → (bk d).tail = bk (ltl d) from fun h => by rw [bk_cons d (fun e => by rw [e, slast_nil] at h; cases h)]; rfl)
  have hdl : d.length ≤ 1000000000 := by have := HL.out; rw [hd]; omega
  have HD := hid hd
  clear ht hd
  go_enter Tryd.func41, Tryd.ntmps41
  go_wp2_with fail
  refine (swth_any 8192 a w HT.out hl).mono ?_
  rintro e w1 ⟨rfl, be⟩
  rw [← HD.out]
  have HB1 := hid be
  clear be
  go_wp2_with fail
  refine (slast_any d w1 (HT.out.below HB1.out) hdl).mono ?_
  rintro e w2 ⟨rfl, be⟩
  have HB2 := hid (HB1.out.trans (be.mono HB1.out.size))
  have HLT := hid (show ltl d = d.take (d.length - (decLast d).2) from rfl)
  obtain ⟨n, hn⟩ : ∃ n, n = slast d := ⟨_, rfl⟩
  obtain ⟨m, hm⟩ : ∃ m : Nat, m = (decLast d).2 := ⟨_, rfl⟩
  rw [← hn] at HV HBL HTL
  rw [← hm] at HBL HLT
  rw [← hn, ← hm]
  clear hn hm be HB1
  go_wp2_with fail
  refine (sfirst_any b w2 (HT.out.below HB2.out)).mono ?_
  rintro e w3 ⟨rfl, be⟩
  have HB3 := hid (HB2.out.trans (be.mono HB2.out.size))
  obtain ⟨x, hx⟩ : ∃ x, x = sfirst b := ⟨_, rfl⟩
  rw [← hx] at HV
  rw [← hx]
  clear hx be HB2
  by_cases h11 : x = 11
  · subst h11
    by_cases h4 : n = 4
    · subst h4
      have HV2 := hid (show prtR (bk a) (fw b) = if mrkR (bk d) == 10 then true else if mrkR (bk d) == 9 then !goR (fw b) else false from HV.out)
      clear HV
      go_wp2_with fail
      refine (smark_any d w3 (HT.out.below HB3.out) hdl).mono ?_
      rintro e w5 ⟨rfl, be⟩
      have HB5 := hid (HB3.out.trans (be.mono HB3.out.size))
      obtain ⟨v, hv⟩ : ∃ v, v = mrkR (bk d) := ⟨_, rfl⟩
      rw [← hv] at HV2
      rw [← hv]
      clear hv be
      by_cases h10 : v = 10
      · subst h10
        go_wp2
        go_ret
        exact ⟨by rw [HV2.out]; rfl, HB5.out⟩
      have b10 : (v == 10) = false := beq_eq_false_iff_ne.2 h10
      by_cases h9 : v = 9
      · subst h9
        go_wp2_with fail
        refine (sgoes_any b w5).mono ?_
        rintro e w6 ⟨rfl, be⟩
        have HB6 := hid (HB5.out.trans (be.mono HB5.out.size))
        obtain ⟨g, hg⟩ : ∃ g, g = goR (fw b) := ⟨_, rfl⟩
        rw [← hg] at HV2
        rw [← hg]
        clear hg be
        have HV3 := hid (show prtR (bk a) (fw b) = !g from HV2.out)
        clear HV2
        go_wp2
        go_ret
        exact ⟨by rw [HV3.out]; rfl, HB6.out⟩
      have b9' : (v == 9) = false := beq_eq_false_iff_ne.2 h9
      have HV3 := hid (show prtR (bk a) (fw b) = false by rw [HV2.out, b10, b9']; rfl)
      clear HV2
      go_wp2
      go_ret
      exact ⟨by rw [HV3.out]; rfl, HB5.out⟩
    · have b4 : (n != 4) = true := bne_iff_ne.2 h4
      have HV2 := hid (show prtR (bk a) (fw b) = false by rw [HV.out, b4]; rfl)
      go_wp2
      go_ret
      exact ⟨by rw [HV2.out]; rfl, HB3.out⟩
  have b11 : (x == 11) = false := beq_eq_false_iff_ne.2 h11
  by_cases hn9 : n = 9
  · subst hn9
    by_cases h8 : x = 8
    · subst h8
      go_wp2
      go_ret
      exact ⟨by rw [HV.out]; rfl, HB3.out⟩
    have b8 : (x == 8) = false := beq_eq_false_iff_ne.2 h8
    by_cases h6 : x = 6
    · subst h6
      obtain ⟨hm1, hm2⟩ := HBL.out rfl
      have HT9 := hid (HTL.out rfl)
      clear HTL HBL
      go_wp2_with fail
      rw [wtake, ← HLT.out]
      refine (scased_any (ltl d) w3 (HT.out.below HB3.out) (by rw [HLT.out, List.length_take]; omega)).mono ?_
      rintro e w4 ⟨rfl, be⟩
      have HB4 := hid (HB3.out.trans (be.mono HB3.out.size))
      obtain ⟨k, hk⟩ : ∃ k, k = csdR (bk (ltl d)) := ⟨_, rfl⟩
      rw [HT9.out, ← hk] at HV
      rw [← hk]
      clear hk be
      cases k with
      | true =>
        go_wp2
        go_ret
        exact ⟨by rw [HV.out]; rfl, HB4.out⟩
      | false =>
        have HV2 := hid (show prtR (bk a) (fw b) = if mrkR (bk d) == 10 then true else if mrkR (bk d) == 9 then !goR (fw b) else false from HV.out)
        clear HV
        go_wp2_with fail
        refine (smark_any d w4 (HT.out.below HB4.out) hdl).mono ?_
        rintro e w5 ⟨rfl, be⟩
        have HB5 := hid (HB4.out.trans (be.mono HB4.out.size))
        obtain ⟨v, hv⟩ : ∃ v, v = mrkR (bk d) := ⟨_, rfl⟩
        rw [← hv] at HV2
        rw [← hv]
        clear hv be
        by_cases h10 : v = 10
        · subst h10
          go_wp2
          go_ret
          exact ⟨by rw [HV2.out]; rfl, HB5.out⟩
        have b10 : (v == 10) = false := beq_eq_false_iff_ne.2 h10
        by_cases h9 : v = 9
        · subst h9
          go_wp2_with fail
          refine (sgoes_any b w5).mono ?_
          rintro e w6 ⟨rfl, be⟩
          have HB6 := hid (HB5.out.trans (be.mono HB5.out.size))
          obtain ⟨g, hg⟩ : ∃ g, g = goR (fw b) := ⟨_, rfl⟩
          rw [← hg] at HV2
          rw [← hg]
          clear hg be
          have HV3 := hid (show prtR (bk a) (fw b) = !g from HV2.out)
          clear HV2
          go_wp2
          go_ret
          exact ⟨by rw [HV3.out]; rfl, HB6.out⟩
        have b9' : (v == 9) = false := beq_eq_false_iff_ne.2 h9
        have HV3 := hid (show prtR (bk a) (fw b) = false by rw [HV2.out, b10, b9']; rfl)
        clear HV2
        go_wp2
        go_ret
        exact ⟨by rw [HV3.out]; rfl, HB5.out⟩
    have b6 : (x == 6) = false := beq_eq_false_iff_ne.2 h6
    have HV2 := hid (show prtR (bk a) (fw b) = if mrkR (bk d) == 10 then true else if mrkR (bk d) == 9 then !goR (fw b) else false by rw [HV.out, b11, b8, b6]; rfl)
    clear HV
    go_wp2_with fail
    refine (smark_any d w3 (HT.out.below HB3.out) hdl).mono ?_
    rintro e w5 ⟨rfl, be⟩
    have HB5 := hid (HB3.out.trans (be.mono HB3.out.size))
    obtain ⟨v, hv⟩ : ∃ v, v = mrkR (bk d) := ⟨_, rfl⟩
    rw [← hv] at HV2
    rw [← hv]
    clear hv be
    by_cases h10 : v = 10
    · subst h10
      go_wp2
      go_ret
      exact ⟨by rw [HV2.out]; rfl, HB5.out⟩
    have b10 : (v == 10) = false := beq_eq_false_iff_ne.2 h10
    by_cases h9 : v = 9
    · subst h9
      go_wp2_with fail
      refine (sgoes_any b w5).mono ?_
      rintro e w6 ⟨rfl, be⟩
      have HB6 := hid (HB5.out.trans (be.mono HB5.out.size))
      obtain ⟨g, hg⟩ : ∃ g, g = goR (fw b) := ⟨_, rfl⟩
      rw [← hg] at HV2
      rw [← hg]
      clear hg be
      have HV3 := hid (show prtR (bk a) (fw b) = !g from HV2.out)
      clear HV2
      go_wp2
      go_ret
      exact ⟨by rw [HV3.out]; rfl, HB6.out⟩
    have b9' : (v == 9) = false := beq_eq_false_iff_ne.2 h9
    have HV3 := hid (show prtR (bk a) (fw b) = false by rw [HV2.out, b10, b9']; rfl)
    clear HV2
    go_wp2
    go_ret
    exact ⟨by rw [HV3.out]; rfl, HB5.out⟩
  have bn9 : (n == 9) = false := beq_eq_false_iff_ne.2 hn9
  have HV2 := hid (show prtR (bk a) (fw b) = if mrkR (bk d) == 10 then true else if mrkR (bk d) == 9 then !goR (fw b) else false by rw [HV.out, b11, bn9]; rfl)
  clear HV
  go_wp2_with fail
  refine (smark_any d w3 (HT.out.below HB3.out) hdl).mono ?_
  rintro e w5 ⟨rfl, be⟩
  have HB5 := hid (HB3.out.trans (be.mono HB3.out.size))
  obtain ⟨v, hv⟩ : ∃ v, v = mrkR (bk d) := ⟨_, rfl⟩
  rw [← hv] at HV2
  rw [← hv]
  clear hv be
  by_cases h10 : v = 10
  · subst h10
    go_wp2
    go_ret
    exact ⟨by rw [HV2.out]; rfl, HB5.out⟩
  have b10 : (v == 10) = false := beq_eq_false_iff_ne.2 h10
  by_cases h9 : v = 9
  · subst h9
    go_wp2_with fail
    refine (sgoes_any b w5).mono ?_
    rintro e w6 ⟨rfl, be⟩
    have HB6 := hid (HB5.out.trans (be.mono HB5.out.size))
    obtain ⟨g, hg⟩ : ∃ g, g = goR (fw b) := ⟨_, rfl⟩
    rw [← hg] at HV2
    rw [← hg]
    clear hg be
    have HV3 := hid (show prtR (bk a) (fw b) = !g from HV2.out)
    clear HV2
    go_wp2
    go_ret
    exact ⟨by rw [HV3.out]; rfl, HB6.out⟩
  have b9' : (v == 9) = false := beq_eq_false_iff_ne.2 h9
  have HV3 := hid (show prtR (bk a) (fw b) = false by rw [HV2.out, b10, b9']; rfl)
  clear HV2
  go_wp2
  go_ret
  exact ⟨by rw [HV3.out]; rfl, HB5.out⟩
end Go.Proofs.YtckifhlhechdlaaDoor
