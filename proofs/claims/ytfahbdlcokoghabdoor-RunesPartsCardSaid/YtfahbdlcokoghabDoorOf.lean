/- The contract of Of (package runes): the set of a text's runes, by way of a map. -/
import Derived.Test.YtfahbdlcokoghabDoorTrimMath
import Derived.Maps.Own
import Derived.Maps.OwnSet
import Derived.Maps.RangeWalk
namespace Go.Proofs.YtfahbdlcokoghabDoor
open Go.RowKit Go.Maps

theorem law21 : Keyed Tryd.prog 21 := int_keyed Tryd.underlying21
/-- The runes as keys. -/
def ksO (xs : List (Nat × Int)) : List Lit := xs.map fun x => .int .i32 x.2
theorem ksO_snoc (xs : List (Nat × Int)) (x : Nat × Int) : ksO (xs ++ [x]) = ksO xs ++ [.int .i32 x.2] := by simp [ksO]
theorem same_int (a b : Int) : (Lit.int .i32 a).sameKey (Lit.int .i32 b) = (a == b) := by
  have h : (Lit.int .i32 a).sameKey (Lit.int .i32 b) = decide (a = b) := by simp [Lit.sameKey]
  rw [h]
  exact Bool.eq_iff_iff.2 (by simp)
theorem isin_sgl (r : Int) (xs : List (Nat × Int)) : isin r (sgl xs) ↔ ∃ x ∈ xs, x.2 = r := by
  rw [isin_iff]
  unfold sgl
  constructor
  · rintro ⟨g, hg, h1, h2⟩
    obtain ⟨x, hx, rfl⟩ := List.mem_map.1 hg
    exact ⟨x, hx, by dsimp only at h1 h2; omega⟩
  · rintro ⟨x, hx, rfl⟩
    exact ⟨(x.2, x.2), List.mem_map.2 ⟨x, hx, rfl⟩, Int.le_refl _, Int.le_refl _⟩
theorem has_ks (r : Int) (xs : List (Nat × Int)) : Maps.has (setOf (H := Unit) (.agg []) (ksO xs)) (.int .i32 r) = true ↔ isin r (sgl xs) := by
  rw [has_setOf _ _ _ (fun x hx => by obtain ⟨y, _, rfl⟩ := List.mem_map.1 hx; trivial), List.any_eq_true, isin_sgl]
  constructor
  · rintro ⟨k, hk, h⟩
    obtain ⟨x, hx, rfl⟩ := List.mem_map.1 hk
    exact ⟨x, hx, by rw [same_int] at h; exact beq_iff_eq.1 h⟩
  · rintro ⟨x, hx, rfl⟩
    exact ⟨.int .i32 x.2, List.mem_map.2 ⟨x, hx, rfl⟩, by rw [same_int]; exact beq_self_eq_true _⟩
theorem wf_dec (l : List UInt8) (t : Nat) : (Lit.int .i32 ((Utf8.decode ⟨l.toArray⟩ t).1 : Int)).wf = true := by
  have h := Lib.rune_le ⟨l.toArray⟩ t
  have h2 : IntKind.i32.min = -2147483648 := by decide
  have h3 : IntKind.i32.max = 2147483647 := by decide
  simp [Lit.wf]
  omega

theorem row_none {w w' : World} {B : Nat} {e : TypeId} {size : Nat} {v : Value} {n : Nat} {xs : List Value} (h : w.ownsRow B e size v n xs) (hg : w.grownBy w' none) : w'.ownsRow B e size v n xs := by
  refine ⟨h.1, ?_⟩
  rcases h.2 with h0 | ⟨g, cap, cur, hv, hb, hgg, hr⟩
  · exact Or.inl h0
  · exact Or.inr ⟨g, cap, cur, hv, hb, (hg.block g (Array.getElem?_eq_some_iff.1 hgg).1 (by simp)).trans hgg, hr⟩

set_option maxRecDepth 100000 in
set_option maxHeartbeats 1000000 in
theorem of_any (l : List UInt8) (w : World) (hl : l.length ≤ 90000) :
    Calls Tryd.prog 10 #[.string ⟨l.toArray⟩] w fun e w' => ∃ v, e = .returned v ∧ w'.ownsRow w.heap.size 46 2 v (nrm (sgl (plr l 0))).length (rgcs (nrm (sgl (plr l 0)))) ∧ Below w.heap.size w w' := by
  obtain ⟨i0, hi, hz0, hz1, hz2⟩ := info_parts Tryd.info46
  have HSZ := hid (show (⟨l.toArray⟩ : ByteArray).size = l.length by show l.toArray.size = _; simp)
  have hpl := plr_len l l.length 0 (by omega)
  have hmm := @run_makeMap Tryd.prog
  have HB0 := hid (((Below.refl w.heap.size w).alloc (Nat.le_refl _) (.map #[] 0)).alloc (by simp) (.stringIter ⟨l.toArray⟩ 0))
  have hit0 := World.iter_heap (w.alloc (.map #[] 0)) ⟨l.toArray⟩ 0
  rw [World.size_alloc] at hit0
  have HIT0 := hid hit0
  have HOM := hid ((World.ownsMap_made w Tryd.prog 21 (unitElem (H := Unit))).alloc (.stringIter ⟨l.toArray⟩ 0))
  clear hit0
  go_enter Tryd.func10, Tryd.ntmps10
  go_wp2
  go_loopw [5] (fun _ wr => ∃ (t : Nat) (xs : List (Nat × Int)), Hid (plr l 0 = xs ++ plr l t) ∧ Hid (wr.heap[w.heap.size + 1]? = some (.stringIter ⟨l.toArray⟩ t)) ∧ Hid (wr.ownsMap Tryd.prog 21 (unitElem (H := Unit)) w.heap.size xs.length (setOf (.agg []) (ksO xs))) ∧ Hid (Below w.heap.size w wr)) (fun _ wr => l.length - wr.iterPos (w.heap.size + 1))
  case atStart => exact ⟨0, [], by simp [Hid], HIT0, HOM, HB0⟩
  case round =>
    obtain ⟨t, xs, HP, HI, HO, HB⟩ := hrel
    have hbs := HB.out.size
    have hin : w.heap.size + 1 < wr.heap.size := (Array.getElem?_eq_some_iff.1 HI.out).1
    by_cases hlt : t < l.length
    · have hnx := run_next_at (P := Tryd.prog) wr (w.heap.size + 1) ⟨l.toArray⟩ t 0 HI.out (by rw [HSZ.out]; exact hlt)
      have d1 := Lib.width_pos ⟨l.toArray⟩ t
      have hst := plr_step l t hlt
      have hwf := wf_dec l t
      obtain ⟨nn, hnn⟩ : ∃ nn, nn = (Utf8.decode ⟨l.toArray⟩ t).2 := ⟨_, rfl⟩
      obtain ⟨rr, hrr⟩ : ∃ rr : Int, rr = ((Utf8.decode ⟨l.toArray⟩ t).1 : Int) := ⟨_, rfl⟩
      rw [← hnn] at hnx hst d1
      rw [← hrr] at hnx hst hwf
      have HP2 := hid (show plr l 0 = (xs ++ [(t, rr)]) ++ plr l (t + nn) by rw [HP.out, hst, List.append_assoc]; rfl)
      have hxl : xs.length < l.length := by rw [HP2.out] at hpl; simp at hpl; omega
      obtain ⟨w1, hw1⟩ : ∃ w1, w1 = wr.putObj (w.heap.size + 1) (.stringIter ⟨l.toArray⟩ (t + nn)) := ⟨_, rfl⟩
      rw [← hw1] at hnx
      have HI1 := hid (show w1.heap[w.heap.size + 1]? = some (.stringIter ⟨l.toArray⟩ (t + nn)) by rw [hw1]; exact World.putObj_heap_same hin)
      have HB1 := hid (show Below w.heap.size w w1 by rw [hw1]; exact HB.out.trans ⟨rfl, rfl, rfl, by simp [World.putObj], fun j hj => World.putObj_heap_other (by omega)⟩)
      have HO1 := hid (show w1.ownsMap Tryd.prog 21 (unitElem (H := Unit)) w.heap.size xs.length (setOf (.agg []) (ksO xs)) by rw [hw1]; exact HO.out.kept (grownBy_putObj' wr _ _) (by simp))
      have hmes : l.length - wr.iterPos (w.heap.size + 1) = l.length - t := by unfold World.iterPos; rw [HI.out]
      have HM2 := hid hmes
      have HKY := hid (keyOf_int_mk Tryd.underlying21 hwf)
      clear hmes hnn hrr hst hw1 HP HI HB HO
      go_wp2_with (first | (at_mapUpdate; refine wpList_mapUpdate_own _ rfl _ _ _ 58 rfl 21 59 law21 Tryd.underlying58 _ w.heap.size xs.length _ rfl HO1.out (by unfold maxLen; omega) _ _ _ rfl rfl HKY.out _ [] (unitElem_mk (H := Unit)) ?_; intro w2 ho2 hg2; go_frame) | go_in)
      have HO2 := hid (show w2.ownsMap Tryd.prog 21 (unitElem (H := Unit)) w.heap.size (xs ++ [(t, rr)]).length (setOf (.agg []) (ksO (xs ++ [(t, rr)]))) by rw [ksO_snoc, setOf_snoc, List.length_append]; exact ho2)
      have HI2 := hid ((hg2.block (w.heap.size + 1) (Array.getElem?_eq_some_iff.1 HI1.out).1 (by simp)).trans HI1.out)
      have HB2 := hid (HB1.out.grown hg2 HB1.out.size (fun j hj => by cases hj; exact Nat.le_refl _))
      clear ho2 hg2
      go_roundw
      case rel => exact ⟨t + nn, xs ++ [(t, rr)], HP2, HI2, HO2, HB2⟩
      case measure =>
        rw [HM2.out]
        unfold World.iterPos
        rw [HI2.out]
        simp only []
        omega
    · have hnx := run_next_stop (P := Tryd.prog) wr (w.heap.size + 1) ⟨l.toArray⟩ t 0 HI.out (by rw [HSZ.out]; exact hlt)
      have HE := hid (show plr l 0 = xs by rw [HP.out, plr_end l t hlt, List.append_nil])
      have hxl : xs.length ≤ l.length := by rw [HE.out] at hpl; omega
      have hsz := HO.out.size_le
      obtain ⟨D, hD⟩ : ∃ D, D = setOf (H := Unit) (.agg []) (ksO xs) := ⟨_, rfl⟩
      have HHS := hid (show ∀ r : Int, Maps.has D (.int .i32 r) = true ↔ isin r (sgl xs) by rw [hD]; exact fun r => has_ks r xs)
      rw [← hD] at HO hsz
      clear hD HP HI
      obtain ⟨Wr, hWr⟩ : ∃ Wr, Wr = wr := ⟨_, rfl⟩
      rw [← hWr] at HO HB hbs hin hnx ⊢
      clear hWr
      have hib : i0.bytes * Maps.size D ≤ 281474976710656 := by rw [hz2]; omega
      go_wp2_with (first
        | (at_len; refine wpList_len_own _ rfl _ 58 rfl 21 59 Tryd.underlying58 _ w.heap.size xs.length _ rfl HO.out ?_)
        | (at_make; refine wpList_make_own _ rfl _ _ 22 rfl Wr.heap.size 46 i0 _ 2 Tryd.underlying22 hi hz0 hz1 .i64 .i64 _ (Maps.size D) rfl rfl rfl hib (by unfold maxLen; omega) (Nat.le_refl _) ?_; intro w2 o2 gr2)
        | (at_range; refine wpList_range_own _ rfl _ 58 rfl 21 59 law21 Tryd.underlying58 _ w.heap.size xs.length _ rfl (HO.out.kept gr2 (by simp)) ?_; intro w3 hrg3 hg3 hs3)
        | go_in)
      go_frame
      have hr2 : Wr.heap.size < w2.heap.size := (o2.lt Wr.heap.size rfl).2
      obtain ⟨R, hR⟩ : ∃ R, R = w2.heap.size := ⟨_, rfl⟩
      rw [← hR] at hrg3 hs3 hr2 ⊢
      have HR3 := hid hrg3
      have HO3 := hid (show w3.ownsRow Wr.heap.size 46 2 (.slice (some ⟨Wr.heap.size, 0, none⟩) 0 (Maps.size D)) ([] : List Rg).length (rgcs []) from row_none o2 hg3)
      have HB3 := hid ((HB.out.grown gr2 HB.out.size (fun j hj => by cases hj)).grown hg3 (by have := gr2.size; omega) (fun j hj => by cases hj))
      have hw3 : w.heap.size + 1 < Wr.heap.size := hin
      clear hrg3 o2 gr2 hg3 hR HO HB hnx
      go_loopw [6, 7] (fun v _ wr => ∃ (left : Lit → Bool) (cnt : Nat) (O : List Rg), Hid (wr.ranges Tryd.prog 21 (unitElem (H := Unit)) w.heap.size R xs.length D left cnt) ∧ cnt + O.length ≤ Maps.size D ∧ R < wr.heap.size ∧ Hid (wr.ownsRow Wr.heap.size 46 2 v O.length (rgcs O)) ∧ Hid (∀ j, v.ownBlock = some j → j ≠ R) ∧ Hid (∀ r : Int, left (.int .i32 r) = true → isin r (sgl xs)) ∧ Hid (∀ r : Int, isin r O ↔ isin r (sgl xs) ∧ left (.int .i32 r) = false) ∧ Hid (Below w.heap.size w wr)) (fun _ _ wr => wr.rangeLeft w.heap.size R)
      case atStart =>
        refine ⟨_, _, [], HR3, by simp, by omega, HO3, fun j hj => ?_, fun r h => (HHS.out r).1 h, fun r => ⟨fun h => h.elim, fun ⟨h1, h2⟩ => ?_⟩, HB3⟩
        · simp [Value.ownBlock] at hj; omega
        · rw [(HHS.out r).2 h1] at h2; cases h2
      case round =>
        obtain ⟨left, cnt, O, HRG, hcn, hRs, HOr, HNE, HLI, HIS, HBr⟩ := hrel
        have hbr := HBr.out.size
        obtain ⟨oo, oc, hu, hro⟩ := rdr_row HOr.out
        subst hu
        have HRO := hid hro
        clear hro
        go_wp2_with (first
          | (at_next; refine wpList_next_ranges _ rfl _ rfl 21 law21 (unitElem (H := Unit)) (Value.int .i32) (fun (_ : Unit) => Value.agg #[]) (fun key kl hkey => by obtain ⟨x, rfl, _⟩ := Maps.keyOf_int_inv Tryd.underlying21 hkey; exact ⟨x, rfl⟩) (fun v y hv => ⟨(), (unitElem_inv hv).1⟩) w.heap.size R xs.length _ _ _ rfl HRG.out ?_ ?_)
          | go_in)
        · intro _ hl0
          have HNM := hid (show nrm O = nrm (sgl xs) from nf_one (nrm_nf O) (nrm_nf (sgl xs)) (fun r => by rw [nrm_in, nrm_in]; unfold means; rw [HIS.out r, hl0]; simp))
          have HN := hid (norm_any oo oc O wr HRO.out (by omega))
          clear hl0
          go_wp2_with fail
          refine HN.out.mono ?_
          rintro e w4 ⟨v, rfl, o4, hb4⟩
          rw [HNM.out] at o4
          have HO4 := hid (ownsRow_base2 o4 hbr)
          have HB4 := hid (HBr.out.trans (hb4.mono hbr))
          clear o4 hb4
          go_wp2
          go_ret
          exact ⟨_, rfl, by rw [HE.out]; exact HO4.out, HB4.out⟩
        · intro x c kl y w4 cnt4 hkey hlk hv hat hrg4 hlt4 hg4 hs4 hen
          obtain ⟨x', ex, rfl, hwx⟩ := Maps.keyOf_int_inv Tryd.underlying21 hkey
          cases ex
          have HO4 := hid (row_grown HOr.out hg4 (fun j hj => HNE.out j hj))
          have HR4 := hid hrg4
          have HB4 := hid (HBr.out.grown hg4 hbr (fun j hj => by cases hj; omega))
          have HIN := hid (HLI.out x hlk)
          have hw4R : R < w4.heap.size := by omega
          have hw4W : Wr.heap.size ≤ w4.heap.size := by omega
          have hw4b : w.heap.size ≤ w4.heap.size := by omega
          clear hrg4 hv hat hkey hlk hg4 hs4
          have hol : O.length ≤ 90000 := by omega
          go_wp2_with (at_builtin; (refine wpList_append_lies _ rfl _ _ _ rfl Wr.heap.size 46 i0 (.agg #[.int .i32 0, .int .i32 0]) 2 8 Tryd.underlying22 hi hz0 hz1 hz2 rfl (by omega) (.slice oo O.length oc) O.length (rgcs O) rfl (HO4.out.alloc _) ⟨w4.heap.size, 0, none⟩ 1 1 (rgc (x, x)) rfl rfl (news_r w4 (x, x) 46) (rgc_one _) (by omega) (by unfold maxLen; omega) (by omega) (by simp; omega) (w4.heap.size + 1) (by simp) ?_; intro gg cc w5 o5 gr5 hat5 hlt5))
          have HO5 := hid (show w5.ownsRow Wr.heap.size 46 2 (.slice (some ⟨gg, 0, none⟩) (O.length + 1) cc) (O ++ [(x, x)]).length (rgcs (O ++ [(x, x)])) by rw [rgcs_snoc, len_snoc]; exact o5)
          have HR5 := hid ((HR4.out.alloc (.cells #[.int .i32 x, .int .i32 x] 46)).kept gr5 (fun e => by have := (HO4.out.lt w.heap.size e.symm).1; omega) (fun e => HNE.out R e.symm rfl))
          have HB5 := hid ((HB4.out.alloc (by omega) (.cells #[.int .i32 x, .int .i32 x] 46)).grown gr5 (by simp; omega) (fun j hj => by have := (HO4.out.lt j hj).1; omega))
          have HN5 := hid (show ∀ j, (Value.slice (some ⟨gg, 0, none⟩) (O.length + 1) cc).ownBlock = some j → j ≠ R from fun j hj => by
            have e : gg = j := by simpa [Value.ownBlock] using hj
            subst e
            rcases hat5 with h | h
            · exact HNE.out gg h
            · omega)
          have HL5 := hid (show ∀ r : Int, (left (.int .i32 r) && !(Lit.int .i32 r).sameKey (.int .i32 x)) = true → isin r (sgl xs) from fun r h => HLI.out r (by rw [Bool.and_eq_true] at h; exact h.1))
          have HI5 := hid (show ∀ r : Int, isin r (O ++ [(x, x)]) ↔ isin r (sgl xs) ∧ (left (.int .i32 r) && !(Lit.int .i32 r).sameKey (.int .i32 x)) = false from fun r => by
            rw [isin_app, HIS.out r, same_int]
            constructor
            · rintro (⟨h1, h2⟩ | h)
              · exact ⟨h1, by rw [h2]; rfl⟩
              · have e : r = x := by
                  rcases h with ⟨a, b⟩ | h
                  · dsimp only at a b; omega
                  · exact h.elim
                subst e
                exact ⟨HIN.out, by simp⟩
            · rintro ⟨h1, h2⟩
              by_cases e : r = x
              · subst e
                exact .inr (.inl ⟨Int.le_refl _, Int.le_refl _⟩)
              · refine .inl ⟨h1, ?_⟩
                rw [show (r == x) = false from beq_eq_false_iff_ne.2 e] at h2
                simpa using h2)
          have hsz5 : R < w5.heap.size := by have := gr5.size; simp at this; omega
          clear o5 gr5 hat5 hen
          go_wp2
          go_roundw
          case rel => exact ⟨_, cnt4, O ++ [(x, x)], HR5, by simp; omega, hsz5, HO5, HN5, HL5, HI5, HB5⟩
          case measure => rw [HR5.out.left_eq, HRG.out.left_eq]; exact hlt4
end Go.Proofs.YtfahbdlcokoghabDoor

