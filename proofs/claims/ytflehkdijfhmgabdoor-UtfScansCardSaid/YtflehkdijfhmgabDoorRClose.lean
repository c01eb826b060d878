/- The contract of the document's Close: the marks of what was not told yet. -/
import Derived.Test.YtflehkdijfhmgabDoorSame
namespace Go.Proofs.YtflehkdijfhmgabDoor
open Go.RowKit

/-- What was found so far and what is to come make the whole, from a place on. -/
def PartC (t : Nat) (T : List UInt8) (ms : List Mk) (s : Nat) : Prop := ms ++ mks (t + s) (T.drop (t + s)) = mks t (T.drop t)
theorem PartC.step {t : Nat} {T : List UInt8} {ms : List Mk} {s : Nat} (h : PartC t T ms s) (ht : t + s < T.length) : PartC t T (ms ++ [mk1 (t + s) (T.drop (t + s))]) (s + (dec (T.drop (t + s))).2) := by
  have hne : T.drop (t + s) ≠ [] := fun e => by have := congrArg List.length e; simp at this; omega
  unfold PartC at h ⊢
  rw [← h, mks_cons (t + s) _ hne]
  simp [List.drop_drop, Nat.add_assoc]
theorem PartC.done {t : Nat} {T : List UInt8} {ms : List Mk} {s : Nat} (h : PartC t T ms s) (ht : ¬ t + s < T.length) : ms = mks t (T.drop t) := by
  unfold PartC at h
  rw [List.drop_of_length_le (by omega), mks_nil] at h
  simpa using h

set_option maxHeartbeats 1000000 in
theorem rclose_any (y : Nat) (T : List UInt8) (t : Nat) (w : World) (hy : RAt w y T t) (htT : t ≤ T.length) (hTl : T.length ≤ 1000000000) :
    Calls Tryd.prog 17 #[.pointer (some ⟨y, 0, none⟩)] w fun e w' => ∃ v, e = .returned v ∧ w'.ownsRow w.heap.size 50 4 v (mks t (T.drop t)).length (mkcs (mks t (T.drop t))) ∧ RAt w' y [] 0 ∧ But y w.heap.size w w' := by
  obtain ⟨i0, hi, hz0, hz1, hz2⟩ := info_parts Tryd.info50
  have hyl : y < w.heap.size := hy.lt
  have HY := hid hy
  clear hy
  go_enter Tryd.func17, Tryd.ntmps17
  go_wp2
  go_loopw [3] (fun v wr => ∃ (s : Nat) (ms : List Mk), Hid (PartC t T ms s) ∧ t + s ≤ T.length ∧ ms.length ≤ s ∧ wr.ownsRow w.heap.size 50 4 v ms.length (mkcs ms) ∧ Hid (RAt wr y T (t + s : Nat)) ∧ Hid (But y w.heap.size w wr)) (fun _ wr => T.length - toldOf wr y)
  case atStart => exact ⟨0, [], by show PartC t T [] 0; simp [PartC], by omega, by simp, World.ownsRow_nil _ _ _ _, HY, But.refl _ _ _⟩
  case round =>
    obtain ⟨s, ms, HP, hsT, hml, hown, HR, HB⟩ := hrel
    clear HY
    have HTO := hid HR.out.told
    have c0 := HR.out.c0
    have c1 := HR.out.c1
    have hs9 : s ≤ 1000000000 := by omega
    obtain ⟨q, hq⟩ : ∃ q, q = t + s := ⟨_, rfl⟩
    rw [← hq] at c1 hsT
    have HQ := hid hq
    by_cases hlt : q < T.length
    · have hne : T.drop q ≠ [] := fun e => by have := congrArg List.length e; simp at this; omega
      have hyr : y < wr.heap.size := HR.out.lt
      have g1 := dec_ge _ hne
      have g2 := dec_le _ hne
      simp only [List.length_drop] at g2
      have HS := hid (HP.out.step (by rw [← hq]; exact hlt))
      rw [← hq] at HS
      clear hq hne
      have HK := hid (show mk1 q (T.drop q) = ⟨q, (dec (T.drop q)).2, (dec (T.drop q)).1, decide ((dec (T.drop q)).2 = 1) && decide ((dec (T.drop q)).1 = 65533)⟩ from rfl)
      have HDC := hid (fun (s : ByteArray) (W : World) (e : s = ⟨(T.drop q).toArray⟩) => rdec_eq s (T.drop q) W e (by simp; omega))
      generalize (dec (T.drop q)).1 = rr at *
      generalize (dec (T.drop q)).2 = k at *
      rw [HK.out] at HS
      clear HK HP
      have hown1 := hown
      clear hown
      have hBd : Below wr.heap.size wr wr.drew := (Below.refl _ _).drew
      replace HR := hid (HR.out.below hBd hyr)
      replace HB := hid (HB.out.thn hBd (by have := HB.out.size; omega))
      replace hown1 := ownsRow_below hown1 hBd (Nat.le_refl _)
      replace HR := hid (HR.out.below (Below.refl wr.drew.heap.size wr.drew).drew hyr)
      replace HB := hid (HB.out.thn (Below.refl w.heap.size wr.drew).drew (Nat.le_refl _))
      replace hown1 := ownsRow_below hown1 (Below.refl wr.drew.heap.size wr.drew).drew (Nat.le_refl _)
      clear hBd
      go_wp2_with fail
      go_region
      go_wp2_with fail
      go_region_held3 (fun w' => w'.cell? ⟨y, 0, none⟩ = some (.string ⟨T.toArray⟩) ∧ w'.cell? ⟨y, 1, none⟩ = some (.int .i64 q)) (go_keep)
        ((go_at_call 29; refine (HDC.out _ _ (ext_drop T q)).mono ?_; rintro e w2 ⟨rfl, hw2⟩; obtain rfl := hw2.symm; clear hw2))
      obtain ⟨w4, hw4⟩ : ∃ w4, w4 = wr.drew.drew := ⟨_, rfl⟩
      rw [← hw4] at HR HB hown1 ⊢
      clear hw4 HDC c0 c1
      have HR1 := HR
      have HB3 := HB
      clear HR HB
      have hws : w.heap.size ≤ w4.heap.size := HB3.out.size
      have d1 : w4.cell? ⟨y, 1, none⟩ = some (.int .i64 q) := by rw [HQ.out]; exact HR1.out.c1
      by_cases hn1 : k = 1
      · by_cases hr1 : rr = 65533
        · have e : (decide (k = 1) && decide (rr = 65533)) = true := by simp [hn1, hr1]
          rw [e] at HS
          have t1 : ((k : Int) == 1) = true := beq_iff_eq.2 (by omega)
          have t2 : ((rr : Int) == 65533) = true := beq_iff_eq.2 (by omega)
          clear hn1 hr1 e
          go_wp2_with (at_builtin; refine wpList_append_own _ rfl _ _ 38 rfl w.heap.size 50 i0 (.agg #[.int .i64 0, .int .i64 0, .int .i32 0, .bool false]) 4 24 Tryd.underlying38 hi hz0 hz1 hz2 rfl (by decide) _ _ _ rfl (hown1.alloc _) ⟨w4.heap.size, 0, none⟩ 1 1 (mkc ⟨q, k, rr, true⟩) rfl rfl (news_one w4 #[.int .i64 q, .int .i64 k, .int .i32 rr, .bool true] 50) (mkc_one _) (by unfold maxLen; omega) (by omega) (by simp; omega) ?_)
          intro v' w3 hown' hgrow _
          have hR3 := (HR1.out.alloc _).grown hgrow hyl (fun k hk => (hown1.lt k hk).1)
          have g1 : w3.cell? ⟨y, 1, none⟩ = some (.int .i64 q) := (by rw [HQ.out]; exact hR3.c1)
          have h1 := hR3.f1
          have HR3 := hid hR3
          have HB4 := hid ((HB3.out.alloc hws _).grown hgrow (by simp; omega) (fun k hk => (hown1.lt k hk).1))
          clear hR3
          go_wp2
          have hown2 : w3.ownsRow w.heap.size 50 4 v' (ms ++ [Mk.mk q k rr true]).length (mkcs (ms ++ [Mk.mk q k rr true])) := by rw [mkcs_snoc, List.length_append]; exact hown'
          go_roundw
          case rel => exact ⟨s + k, _, HS, by have := HQ.out; omega, by simp; omega, ownsRow_set hown2 hyl, by have e := HR3.out.set1 ((q : Int) + k); rw [show ((t + (s + k) : Nat) : Int) = (q : Int) + k by rw [HQ.out]; omega]; exact e, HB4.out.set _⟩
          case measure =>
            rw [show toldOf wr y = q by rw [HTO.out, HQ.out]]
            have e := HR3.out.set1 ((q : Int) + k)
            rw [show ((q : Int) + k) = ((q + k : Nat) : Int) by omega] at e ⊢
            rw [e.told]
            omega
        · have e : (decide (k = 1) && decide (rr = 65533)) = false := by simp; omega
          rw [e] at HS
          have t1 : ((k : Int) == 1) = true := beq_iff_eq.2 (by omega)
          have t2 : ((rr : Int) == 65533) = false := beq_eq_false_iff_ne.2 (by omega)
          clear hn1 hr1 e
          go_wp2_with (at_builtin; refine wpList_append_own _ rfl _ _ 38 rfl w.heap.size 50 i0 (.agg #[.int .i64 0, .int .i64 0, .int .i32 0, .bool false]) 4 24 Tryd.underlying38 hi hz0 hz1 hz2 rfl (by decide) _ _ _ rfl (hown1.alloc _) ⟨w4.heap.size, 0, none⟩ 1 1 (mkc ⟨q, k, rr, false⟩) rfl rfl (news_one w4 #[.int .i64 q, .int .i64 k, .int .i32 rr, .bool false] 50) (mkc_one _) (by unfold maxLen; omega) (by omega) (by simp; omega) ?_)
          intro v' w3 hown' hgrow _
          have hR3 := (HR1.out.alloc _).grown hgrow hyl (fun k hk => (hown1.lt k hk).1)
          have g1 : w3.cell? ⟨y, 1, none⟩ = some (.int .i64 q) := (by rw [HQ.out]; exact hR3.c1)
          have h1 := hR3.f1
          have HR3 := hid hR3
          have HB4 := hid ((HB3.out.alloc hws _).grown hgrow (by simp; omega) (fun k hk => (hown1.lt k hk).1))
          clear hR3
          go_wp2
          have hown2 : w3.ownsRow w.heap.size 50 4 v' (ms ++ [Mk.mk q k rr false]).length (mkcs (ms ++ [Mk.mk q k rr false])) := by rw [mkcs_snoc, List.length_append]; exact hown'
          go_roundw
          case rel => exact ⟨s + k, _, HS, by have := HQ.out; omega, by simp; omega, ownsRow_set hown2 hyl, by have e := HR3.out.set1 ((q : Int) + k); rw [show ((t + (s + k) : Nat) : Int) = (q : Int) + k by rw [HQ.out]; omega]; exact e, HB4.out.set _⟩
          case measure =>
            rw [show toldOf wr y = q by rw [HTO.out, HQ.out]]
            have e := HR3.out.set1 ((q : Int) + k)
            rw [show ((q : Int) + k) = ((q + k : Nat) : Int) by omega] at e ⊢
            rw [e.told]
            omega
      · have e : (decide (k = 1) && decide (rr = 65533)) = false := by simp [hn1]
        rw [e] at HS
        have t1 : ((k : Int) == 1) = false := beq_eq_false_iff_ne.2 (by omega)
        clear hn1 e
        go_wp2_with (at_builtin; refine wpList_append_own _ rfl _ _ 38 rfl w.heap.size 50 i0 (.agg #[.int .i64 0, .int .i64 0, .int .i32 0, .bool false]) 4 24 Tryd.underlying38 hi hz0 hz1 hz2 rfl (by decide) _ _ _ rfl (hown1.alloc _) ⟨w4.heap.size, 0, none⟩ 1 1 (mkc ⟨q, k, rr, false⟩) rfl rfl (news_one w4 #[.int .i64 q, .int .i64 k, .int .i32 rr, .bool false] 50) (mkc_one _) (by unfold maxLen; omega) (by omega) (by simp; omega) ?_)
        intro v' w3 hown' hgrow _
        have hR3 := (HR1.out.alloc _).grown hgrow hyl (fun k hk => (hown1.lt k hk).1)
        have g1 : w3.cell? ⟨y, 1, none⟩ = some (.int .i64 q) := (by rw [HQ.out]; exact hR3.c1)
        have h1 := hR3.f1
        have HR3 := hid hR3
        have HB4 := hid ((HB3.out.alloc hws _).grown hgrow (by simp; omega) (fun k hk => (hown1.lt k hk).1))
        clear hR3
        go_wp2
        have hown2 : w3.ownsRow w.heap.size 50 4 v' (ms ++ [Mk.mk q k rr false]).length (mkcs (ms ++ [Mk.mk q k rr false])) := by rw [mkcs_snoc, List.length_append]; exact hown'
        go_roundw
        case rel => exact ⟨s + k, _, HS, by have := HQ.out; omega, by simp; omega, ownsRow_set hown2 hyl, by have e := HR3.out.set1 ((q : Int) + k); rw [show ((t + (s + k) : Nat) : Int) = (q : Int) + k by rw [HQ.out]; omega]; exact e, HB4.out.set _⟩
        case measure =>
          rw [show toldOf wr y = q by rw [HTO.out, HQ.out]]
          have e := HR3.out.set1 ((q : Int) + k)
          rw [show ((q : Int) + k) = ((q + k : Nat) : Int) by omega] at e ⊢
          rw [e.told]
          omega
    · have HD := hid (HP.out.done (by rw [← hq]; exact hlt))
      clear hq
      have HR3 := hid ((HR.out.set0 []).set1 0)
      have f0 := HR.out.f0
      have f1 := HR.out.f1
      go_wp2_with fail
      go_region
      go_wp2
      go_ret
      refine ⟨_, rfl, by rw [← HD.out]; exact ownsRow_below (ownsRow_set (ownsRow_set hown hyl) hyl) (Below.refl _ _).drew (Nat.le_refl _), HR3.out, ((HB.out.set _).set _).thn (Below.refl w.heap.size _).drew (Nat.le_refl _)⟩
end Go.Proofs.YtflehkdijfhmgabDoor
