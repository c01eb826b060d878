/- The contract of the document's Feed. -/
import Derived.Test.YtflehkdijfhmgabDoorBegins
import Derived.Test.YtflehkdijfhmgabDoorFeed
namespace Go.Proofs.YtflehkdijfhmgabDoor
open Go.RowKit

/-- The document's Scanner at a block: all that was fed, how many bytes of it were told. -/
def RAt (w : World) (y : Nat) (S : List UInt8) (t : Int) : Prop := w.heap[y]? = some (.cells #[.string ⟨S.toArray⟩, .int .i64 t] 37 (0, 0))
theorem RAt.c0 {w : World} {y : Nat} {S : List UInt8} {t : Int} (h : RAt w y S t) : w.cell? ⟨y, 0, none⟩ = some (.string ⟨S.toArray⟩) := by rw [cell_of_row w y 0 _ 37 (0, 0) h]; rfl
theorem RAt.c1 {w : World} {y : Nat} {S : List UInt8} {t : Int} (h : RAt w y S t) : w.cell? ⟨y, 1, none⟩ = some (.int .i64 t) := by rw [cell_of_row w y 1 _ 37 (0, 0) h]; rfl
theorem RAt.f0 {w : World} {y : Nat} {S : List UInt8} {t : Int} (h : RAt w y S t) : w.frozen? ⟨y, 0, none⟩ = false := frozen_of_row w y 0 _ 37 h
theorem RAt.f1 {w : World} {y : Nat} {S : List UInt8} {t : Int} (h : RAt w y S t) : w.frozen? ⟨y, 1, none⟩ = false := frozen_of_row w y 1 _ 37 h
theorem RAt.lt {w : World} {y : Nat} {S : List UInt8} {t : Int} (h : RAt w y S t) : y < w.heap.size := (Array.getElem?_eq_some_iff.1 h).1
theorem RAt.set0 {w : World} {y : Nat} {S : List UInt8} {t : Int} (h : RAt w y S t) (S' : List UInt8) : RAt (w.setCell ⟨y, 0, none⟩ (.string ⟨S'.toArray⟩)) y S' t := Lib.heap_setCell_same (i := 0) h _
theorem RAt.set1 {w : World} {y : Nat} {S : List UInt8} {t : Int} (h : RAt w y S t) (t' : Int) : RAt (w.setCell ⟨y, 1, none⟩ (.int .i64 t')) y S t' := Lib.heap_setCell_same (i := 1) h _

/-- How many bytes were told, read off the world. -/
def toldOf (w : World) (y : Nat) : Nat := match w.cell? ⟨y, 1, none⟩ with | some (.int _ q) => q.toNat | _ => 0
theorem RAt.told {w : World} {y : Nat} {S : List UInt8} {t : Nat} (h : RAt w y S t) : toldOf w y = t := by unfold toldOf; rw [h.c1]; simp
theorem RAt.below {w w' : World} {y n : Nat} {S : List UInt8} {t : Int} (h : RAt w y S t) (hB : Below n w w') (hn : y < n) : RAt w' y S t := (hB.block y hn).trans h
theorem But.thn {x B n : Nat} {w w' w'' : World} (h : But x B w w') (k : Below n w' w'') (hB : B ≤ n) : But x B w w'' :=
  ⟨k.os.trans h.os, k.tape.trans h.tape, k.output.trans h.output, Nat.le_trans h.size k.size, fun j hj hx => (k.block j (by omega)).trans (h.block j hj hx)⟩
theorem But.set {x B i : Nat} {w w' : World} (h : But x B w w') (u : Value) : But x B w (w'.setCell ⟨x, i, none⟩ u) :=
  ⟨h.os, h.tape, h.output, by simp [World.setCell]; exact h.size, fun j hj hx => (Below.heap_setCell _ _ _ _ hx).trans (h.block j hj hx)⟩
theorem But.refl (x B : Nat) (w : World) : But x B w w := ⟨rfl, rfl, rfl, Nat.le_refl _, fun _ _ _ => rfl⟩
theorem But.grown {x B : Nat} {w w' w'' : World} {row : Option Nat} (h : But x B w w') (hg : w'.grownBy w'' row) (hB : B ≤ w'.heap.size) (hr : ∀ k, row = some k → B ≤ k) : But x B w w'' :=
  ⟨hg.os.trans h.os, hg.tape.trans h.tape, hg.output.trans h.output, Nat.le_trans h.size hg.size, fun j hj hx => (hg.block j (by omega) (fun e => by have := hr j e.symm; omega)).trans (h.block j hj hx)⟩
theorem RAt.grown {w w' : World} {y B : Nat} {S : List UInt8} {t : Int} {row : Option Nat} (h : RAt w y S t) (hg : w.grownBy w' row) (hy : y < B) (hr : ∀ k, row = some k → B ≤ k) : RAt w' y S t :=
  (hg.block y h.lt (fun e => by have := hr y e.symm; omega)).trans h
theorem ownsRow_below {w w' : World} {B m : Nat} {e : TypeId} {size : Nat} {v : Value} {n : Nat} {xs : List Value} (h : w.ownsRow B e size v n xs) (hB : Below m w w') (hm : w.heap.size ≤ m) : w'.ownsRow B e size v n xs := by
  refine ⟨h.1, ?_⟩
  rcases h.2 with h0 | ⟨g, cap, cur, hv, hb, hg, hr⟩
  · exact Or.inl h0
  · exact Or.inr ⟨g, cap, cur, hv, hb, (hB.block g (Nat.lt_of_lt_of_le (Array.getElem?_eq_some_iff.1 hg).1 hm)).trans hg, hr⟩
theorem But.alloc {x B : Nat} {w w' : World} (h : But x B w w') (hB : B ≤ w'.heap.size) (o : Obj) : But x B w (w'.alloc o) := h.thn ((Below.refl B w').alloc hB o) (Nat.le_refl _)
theorem RAt.alloc {w : World} {y : Nat} {S : List UInt8} {t : Int} (h : RAt w y S t) (o : Obj) : RAt (w.alloc o) y S t := h.below ((Below.refl w.heap.size w).alloc (Nat.le_refl _) o) h.lt
theorem ownsRow_set {w : World} {y B i : Nat} {e : TypeId} {size : Nat} {v u : Value} {n : Nat} {xs : List Value} (h : w.ownsRow B e size v n xs) (hy : y < B) : (w.setCell ⟨y, i, none⟩ u).ownsRow B e size v n xs :=
  ownsRow_same (fun k hk => Below.heap_setCell _ _ _ _ (show k ≠ y by omega)) h
theorem begins_eq (s : ByteArray) (l : List UInt8) (w : World) (hs : s = ⟨l.toArray⟩) (h : l ≠ []) (hl : l.length ≤ 1000000000000) :
    Calls Tryd.prog 28 #[.string s] w fun e w' => e = .returned (.bool (frst (ib l)).isNone) ∧ Below w.heap.size w w' := by
  subst hs
  exact begins_any l w h hl

theorem begins_t (s : ByteArray) (l : List UInt8) (w : World) (hs : s = ⟨l.toArray⟩) (h : l ≠ []) (hl : l.length ≤ 1000000000000) (hf : frst (ib l) = none) :
    Calls Tryd.prog 28 #[.string s] w fun e w' => e = .returned (.bool true) ∧ Below w.heap.size w w' := by
  have := begins_eq s l w hs h hl
  rw [hf] at this; exact this
theorem begins_f (s : ByteArray) (l : List UInt8) (x : Nat × Int × Bool) (w : World) (hs : s = ⟨l.toArray⟩) (h : l ≠ []) (hl : l.length ≤ 1000000000000) (hf : frst (ib l) = some x) :
    Calls Tryd.prog 28 #[.string s] w fun e w' => e = .returned (.bool false) ∧ Below w.heap.size w w' := by
  have := begins_eq s l w hs h hl
  rw [hf] at this; exact this

set_option maxHeartbeats 1000000 in
theorem rfeed_any (y : Nat) (S p : List UInt8) (t : Nat) (pv : Value) (w : World) (hy : RAt w y S t) (ht : t ≤ S.length) (hl : S.length + p.length ≤ 1000000000)
    (hcv : (convert 30 9 pv).run Tryd.prog w.drew = .ok (.string ⟨p.toArray⟩) w.drew) :
    Calls Tryd.prog 13 #[.pointer (some ⟨y, 0, none⟩), pv] w fun e w' => ∃ v, e = .returned v ∧ w'.ownsRow w.heap.size 50 4 v (sc t (ib ((S ++ p).drop t))).1.length (mkcs (sc t (ib ((S ++ p).drop t))).1) ∧
      RAt w' y (S ++ p) (t + (sc t (ib ((S ++ p).drop t))).2 : Nat) ∧ But y w.heap.size w w' := by
  obtain ⟨i0, hi, hz0, hz1, hz2⟩ := info_parts Tryd.info50
  have c0 := hy.c0
  have f0 := hy.f0
  have HY := hid hy
  clear hy
  go_enter Tryd.func13, Tryd.ntmps13
  go_wp2_with fail
  go_region
  rw [app_list S p]
  obtain ⟨W, hW⟩ : ∃ W, W = (w.setCell ⟨y, 0, none⟩ (.string ⟨(S ++ p).toArray⟩)).drew := ⟨_, rfl⟩
  rw [← hW]
  have HRW := hid (show RAt W y (S ++ p) t by rw [hW]; exact HY.out.set0 (S ++ p))
  have HBW := hid (show But y w.heap.size w W by rw [hW]; exact ((But.refl y w.heap.size w).set _).thn (Below.refl w.heap.size _).drew (Nat.le_refl _))
  have hyl : y < w.heap.size := HY.out.lt
  clear hW c0 f0 HY hcv
  obtain ⟨T, hT⟩ : ∃ T, T = S ++ p := ⟨_, rfl⟩
  have hTl : T.length ≤ 1000000000 := by rw [hT]; simp; omega
  have htT : t ≤ T.length := by rw [hT]; simp; omega
  rw [← hT] at HRW ⊢
  have HTT := hid hT
  clear hT hl ht
  go_wp2
  go_loopw [5] (fun v wr => ∃ (s : Nat) (ms : List Mk), Hid (Part t (ib (T.drop t)) ms s) ∧ t + s ≤ T.length ∧ ms.length ≤ s ∧ wr.ownsRow w.heap.size 50 4 v ms.length (mkcs ms) ∧ Hid (RAt wr y T (t + s : Nat)) ∧ Hid (But y w.heap.size w wr)) (fun _ wr => T.length - toldOf wr y)
  case atStart => exact ⟨0, [], Part.start _ _, by omega, by simp, World.ownsRow_nil _ _ _ _, HRW, HBW⟩
  case round =>
    obtain ⟨s, ms, HP, hsT, hml, hown, HR, HB⟩ := hrel
    clear HRW HBW
    have HTO := hid HR.out.told
    have c0 := HR.out.c0
    have c1 := HR.out.c1
    have hs9 : s ≤ 1000000000 := by omega
    obtain ⟨q, hq⟩ : ∃ q, q = t + s := ⟨_, rfl⟩
    rw [← hq] at c1 hsT
    have HQ := hid hq
    clear hq
    have HIB := hid (show (ib (T.drop t)).drop s = ib (T.drop q) by rw [ib_drop, List.drop_drop, HQ.out])
    by_cases hlt : q < T.length
    · have hne : T.drop q ≠ [] := fun e => by have := congrArg List.length e; simp at this; omega
      have hyr : y < wr.heap.size := HR.out.lt
      cases hf : frst (ib (T.drop q)) with
      | none =>
        have HF := hid hf
        clear hf
        go_wp2_with fail
        go_region_held3 (fun w' => w'.cell? ⟨y, 0, none⟩ = some (.string ⟨T.toArray⟩) ∧ w'.cell? ⟨y, 1, none⟩ = some (.int .i64 q))
          (first | go_keep | (refine ⟨(hB1.cell (p := ⟨y, 0, none⟩) hyr).trans c0, (hB1.cell (p := ⟨y, 1, none⟩) hyr).trans c1⟩))
          ((go_at_call 28; refine (begins_t _ (T.drop q) _ (ext_drop T q) hne (by simp; omega) (by exact HF.out)).mono ?_; rintro e w1 ⟨rfl, hB1⟩))
        have hB2 : Below wr.heap.size wr w1 := ((Below.refl wr.heap.size wr).drew).trans hB1
        have HFIN := hid (show (ms = (sc t (ib (T.drop t))).1 ∧ s = (sc t (ib (T.drop t))).2) from HP.out.done (by rw [HIB.out]; exact HF.out))
        have HO := hid (show w1.ownsRow w.heap.size 50 4 u5 ms.length (mkcs ms) from ownsRow_below hown hB2 (Nat.le_refl _))
        clear hown
        go_wp2
        go_ret
        rw [← HTT.out]
        refine ⟨_, rfl, by rw [← HFIN.out.1]; exact HO.out, by rw [← HFIN.out.2]; exact HR.out.below hB2 hyr, HB.out.thn hB2 (by have := HB.out.size; omega)⟩
      | some x =>
        obtain ⟨k, r, b⟩ := x
        have HF := hid hf
        obtain ⟨hd1, hd2, hd3⟩ := frst_dec _ _ _ _ hf
        obtain ⟨rr, rfl⟩ : ∃ rr : Nat, r = rr := ⟨r.toNat, (Int.toNat_of_nonneg hd2).symm⟩
        rw [Int.toNat_natCast] at hd1
        have hkb := frst_bd _ _ _ _ hf
        rw [ib_len, List.length_drop] at hkb
        have HS := hid (HP.out.step (n := k) (r := (rr : Int)) (b := b) (by rw [HIB.out]; exact hf))
        clear hf
        go_wp2_with fail
        go_region_held3 (fun w' => w'.cell? ⟨y, 0, none⟩ = some (.string ⟨T.toArray⟩) ∧ w'.cell? ⟨y, 1, none⟩ = some (.int .i64 q))
          (first | go_keep | (refine ⟨(hB1.cell (p := ⟨y, 0, none⟩) hyr).trans c0, (hB1.cell (p := ⟨y, 1, none⟩) hyr).trans c1⟩))
          ((go_at_call 28; refine (begins_f _ (T.drop q) _ _ (ext_drop T q) hne (by simp; omega) (by exact HF.out)).mono ?_; rintro e w1 ⟨rfl, hB1⟩))
        have hB2 : Below wr.heap.size wr w1 := ((Below.refl wr.heap.size wr).drew).trans hB1
        have HR1 := hid (HR.out.below hB2 hyr)
        have HB3 := hid (HB.out.thn hB2 (by have := HB.out.size; omega))
        have hown1 : w1.ownsRow w.heap.size 50 4 u5 ms.length (mkcs ms) := ownsRow_below hown hB2 (Nat.le_refl _)
        have hyr1 : y < w1.heap.size := HR1.out.lt
        have d0 : w1.cell? ⟨y, 0, none⟩ = some (.string ⟨T.toArray⟩) := HR1.out.c0
        have d1 : w1.cell? ⟨y, 1, none⟩ = some (.int .i64 q) := by rw [HQ.out]; exact HR1.out.c1
        clear hown c0 c1 hB1 hB2 HR HB
        have HDEC := hid hd1
        go_wp2_with fail
        go_region_held3 (fun w' => w'.cell? ⟨y, 0, none⟩ = some (.string ⟨T.toArray⟩) ∧ w'.cell? ⟨y, 1, none⟩ = some (.int .i64 q)) (go_keep)
          ((go_at_call 29; refine (rdec_eq _ (T.drop q) _ (ext_drop T q) (by simp; omega)).mono ?_; rintro e w2 ⟨rfl, hw2⟩; obtain rfl := hw2.symm; clear hw2))
        clear HDEC hd1 hd2 d0 d1
        have hdr : Below w1.heap.size w1 w1.drew := (Below.refl _ _).drew
        replace HR1 := hid (HR1.out.below hdr hyr1)
        replace HB3 := hid (HB3.out.thn hdr (by have := HB3.out.size; omega))
        replace hown1 := ownsRow_below hown1 hdr (Nat.le_refl _)
        obtain ⟨w4, hw4⟩ : ∃ w4, w4 = w1.drew := ⟨_, rfl⟩
        rw [← hw4] at HR1 HB3 hown1 ⊢
        clear hw4 hdr hyr1
        have hws : w.heap.size ≤ w4.heap.size := HB3.out.size
        have d1 : w4.cell? ⟨y, 1, none⟩ = some (.int .i64 q) := by rw [HQ.out]; exact HR1.out.c1
        rw [hd3, show ((t : Int) + (s : Nat)) = (q : Int) by rw [HQ.out]; omega] at HS
        by_cases hn1 : k = 1
        · by_cases hr1 : rr = 65533
          · have e : (decide (k = 1) && decide ((rr : Int) = 65533)) = true := by simp [hn1, hr1]
            rw [e] at HS
            have t1 : ((k : Int) == 1) = true := beq_iff_eq.2 (by omega)
            have t2 : ((rr : Int) == 65533) = true := beq_iff_eq.2 (by omega)
            clear hn1 hr1 e hd3
            go_wp2_with (at_builtin; refine wpList_append_own _ rfl _ _ 38 rfl w.heap.size 50 i0 (.agg #[.int .i64 0, .int .i64 0, .int .i32 0, .bool false]) 4 24 Tryd.underlying38 hi hz0 hz1 hz2 rfl (by decide) _ _ _ rfl (hown1.alloc _) ⟨w4.heap.size, 0, none⟩ 1 1 (mkc ⟨q, k, rr, true⟩) rfl rfl (news_one w4 #[.int .i64 q, .int .i64 k, .int .i32 rr, .bool true] 50) (mkc_one _) (by unfold maxLen; omega) (by omega) (by simp; omega) ?_)
            intro v' w3 hown' hgrow _
            have hR3 := (HR1.out.alloc _).grown hgrow hyl (fun k hk => (hown1.lt k hk).1)
            have g1 : w3.cell? ⟨y, 1, none⟩ = some (.int .i64 q) := (by rw [HQ.out]; exact hR3.c1)
            have h1 := hR3.f1
            have HR3 := hid hR3
            have HB4 := hid ((HB3.out.alloc hws _).grown hgrow (by simp; omega) (fun k hk => (hown1.lt k hk).1))
            clear hR3
            go_wp2
            have hown2 : w3.ownsRow w.heap.size 50 4 v' (ms ++ [Mk.mk q k rr true]).length (mkcs (ms ++ [Mk.mk q k rr true])) := by rw [mkcs_snoc, List.length_append]; exact hown'
            go_roundw
            case rel => exact ⟨s + k, _, HS, by have := HQ.out; omega, by simp; omega, ownsRow_set hown2 hyl, by have e := HR3.out.set1 ((q : Int) + k); rw [show ((t + (s + k) : Nat) : Int) = (q : Int) + k by rw [HQ.out]; omega]; exact e, HB4.out.set _⟩
            case measure =>
              rw [show toldOf wr y = q by rw [HTO.out, HQ.out]]
              have e := HR3.out.set1 ((q : Int) + k)
              rw [show ((q : Int) + k) = ((q + k : Nat) : Int) by omega] at e ⊢
              rw [e.told]
              omega
          · have e : (decide (k = 1) && decide ((rr : Int) = 65533)) = false := by simp; omega
            rw [e] at HS
            have t1 : ((k : Int) == 1) = true := beq_iff_eq.2 (by omega)
            have t2 : ((rr : Int) == 65533) = false := beq_eq_false_iff_ne.2 (by omega)
            clear hn1 hr1 e hd3
            go_wp2_with (at_builtin; refine wpList_append_own _ rfl _ _ 38 rfl w.heap.size 50 i0 (.agg #[.int .i64 0, .int .i64 0, .int .i32 0, .bool false]) 4 24 Tryd.underlying38 hi hz0 hz1 hz2 rfl (by decide) _ _ _ rfl (hown1.alloc _) ⟨w4.heap.size, 0, none⟩ 1 1 (mkc ⟨q, k, rr, false⟩) rfl rfl (news_one w4 #[.int .i64 q, .int .i64 k, .int .i32 rr, .bool false] 50) (mkc_one _) (by unfold maxLen; omega) (by omega) (by simp; omega) ?_)
            intro v' w3 hown' hgrow _
            have hR3 := (HR1.out.alloc _).grown hgrow hyl (fun k hk => (hown1.lt k hk).1)
            have g1 : w3.cell? ⟨y, 1, none⟩ = some (.int .i64 q) := (by rw [HQ.out]; exact hR3.c1)
            have h1 := hR3.f1
            have HR3 := hid hR3
            have HB4 := hid ((HB3.out.alloc hws _).grown hgrow (by simp; omega) (fun k hk => (hown1.lt k hk).1))
            clear hR3
            go_wp2
            have hown2 : w3.ownsRow w.heap.size 50 4 v' (ms ++ [Mk.mk q k rr false]).length (mkcs (ms ++ [Mk.mk q k rr false])) := by rw [mkcs_snoc, List.length_append]; exact hown'
            go_roundw
            case rel => exact ⟨s + k, _, HS, by have := HQ.out; omega, by simp; omega, ownsRow_set hown2 hyl, by have e := HR3.out.set1 ((q : Int) + k); rw [show ((t + (s + k) : Nat) : Int) = (q : Int) + k by rw [HQ.out]; omega]; exact e, HB4.out.set _⟩
            case measure =>
              rw [show toldOf wr y = q by rw [HTO.out, HQ.out]]
              have e := HR3.out.set1 ((q : Int) + k)
              rw [show ((q : Int) + k) = ((q + k : Nat) : Int) by omega] at e ⊢
              rw [e.told]
              omega
        · have e : (decide (k = 1) && decide ((rr : Int) = 65533)) = false := by simp [hn1]
          rw [e] at HS
          have t1 : ((k : Int) == 1) = false := beq_eq_false_iff_ne.2 (by omega)
          clear hn1 e hd3
          go_wp2_with (at_builtin; refine wpList_append_own _ rfl _ _ 38 rfl w.heap.size 50 i0 (.agg #[.int .i64 0, .int .i64 0, .int .i32 0, .bool false]) 4 24 Tryd.underlying38 hi hz0 hz1 hz2 rfl (by decide) _ _ _ rfl (hown1.alloc _) ⟨w4.heap.size, 0, none⟩ 1 1 (mkc ⟨q, k, rr, false⟩) rfl rfl (news_one w4 #[.int .i64 q, .int .i64 k, .int .i32 rr, .bool false] 50) (mkc_one _) (by unfold maxLen; omega) (by omega) (by simp; omega) ?_)
          intro v' w3 hown' hgrow _
          have hR3 := (HR1.out.alloc _).grown hgrow hyl (fun k hk => (hown1.lt k hk).1)
          have g1 : w3.cell? ⟨y, 1, none⟩ = some (.int .i64 q) := (by rw [HQ.out]; exact hR3.c1)
          have h1 := hR3.f1
          have HR3 := hid hR3
          have HB4 := hid ((HB3.out.alloc hws _).grown hgrow (by simp; omega) (fun k hk => (hown1.lt k hk).1))
          clear hR3
          go_wp2
          have hown2 : w3.ownsRow w.heap.size 50 4 v' (ms ++ [Mk.mk q k rr false]).length (mkcs (ms ++ [Mk.mk q k rr false])) := by rw [mkcs_snoc, List.length_append]; exact hown'
          go_roundw
          case rel => exact ⟨s + k, _, HS, by have := HQ.out; omega, by simp; omega, ownsRow_set hown2 hyl, by have e := HR3.out.set1 ((q : Int) + k); rw [show ((t + (s + k) : Nat) : Int) = (q : Int) + k by rw [HQ.out]; omega]; exact e, HB4.out.set _⟩
          case measure =>
            rw [show toldOf wr y = q by rw [HTO.out, HQ.out]]
            have e := HR3.out.set1 ((q : Int) + k)
            rw [show ((q : Int) + k) = ((q + k : Nat) : Int) by omega] at e ⊢
            rw [e.told]
            omega
    · have hq2 : q = T.length := by omega
      go_wp2_with fail
      go_region
      have HFIN := hid (show (ms = (sc t (ib (T.drop t))).1 ∧ s = (sc t (ib (T.drop t))).2) from HP.out.done (by rw [HIB.out, List.drop_of_length_le (by omega)]; rfl))
      go_wp2
      go_ret
      rw [← HTT.out]
      refine ⟨_, rfl, by rw [← HFIN.out.1]; exact ownsRow_below hown (Below.refl _ wr).drew (Nat.le_refl _), by rw [← HFIN.out.2]; exact HR.out, HB.out.thn (Below.refl w.heap.size wr).drew (Nat.le_refl _)⟩
end Go.Proofs.YtflehkdijfhmgabDoor
