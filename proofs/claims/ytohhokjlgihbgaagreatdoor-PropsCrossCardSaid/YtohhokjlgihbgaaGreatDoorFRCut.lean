/- The contract of the document's cut. -/
import Derived.Test.YtohhokjlgihbgaaGreatDoorFRdMath2
import Derived.Test.YtohhokjlgihbgaaGreatDoorFRead
namespace Go.Proofs.YtohhokjlgihbgaaGreatDoor
open Go.RowKit

theorem qdd_yes (l : List UInt8) (i : Nat) (hi : i < l.length) (h : (qdd l i).2.2 = true) : l[i] = 39 ∧ stp (l.drop i) = (qdd l i).2.1 + 2 := by
  unfold qdd at h ⊢
  split at h
  · rename_i c
    rw [if_pos c]
    obtain ⟨c1, c2, c3, c4⟩ := c
    rw [pre_one hi, decide_eq_true_iff] at c1
    refine ⟨c1, ?_⟩
    unfold stp
    rw [if_pos]
    · rw [List.drop_drop]
    · refine ⟨?_, ?_, ?_, ?_⟩
      · rw [List.getD_eq_getElem?_getD, List.getElem?_drop, Nat.add_zero, List.getElem?_eq_getElem hi]; exact c1
      · rw [List.drop_drop]; omega
      · rw [List.drop_drop, List.length_drop]; omega
      · rw [List.drop_drop, List.getD_eq_getElem?_getD, List.getElem?_drop, ← List.getD_eq_getElem?_getD, ← Nat.add_assoc]; exact c4
  · cases h
theorem qdd_no (l : List UInt8) (i : Nat) (hi : i < l.length) (h : (qdd l i).2.2 = false) : stp (l.drop i) = 1 := by
  unfold qdd at h
  split at h
  · cases h
  · rename_i c
    unfold stp
    rw [if_neg]
    rintro ⟨c1, c2, c3, c4⟩
    apply c
    rw [List.drop_drop] at c2 c3 c4
    refine ⟨?_, by omega, by rw [List.length_drop] at c3; omega, ?_⟩
    · rw [pre_one hi, decide_eq_true_iff]
      rw [List.getD_eq_getElem?_getD, List.getElem?_drop, Nat.add_zero, List.getElem?_eq_getElem hi] at c1
      exact c1
    · rw [List.getD_eq_getElem?_getD, List.getElem?_drop, ← List.getD_eq_getElem?_getD, ← Nat.add_assoc] at c4
      exact c4
/-- The place of the remark, and that of the first ; ahead of it. -/
def ctF (l : List UInt8) : Nat → Nat → Int → Nat × Int
  | 0, i, s => (i, s)
  | f + 1, i, s => if i < l.length ∧ l.getD i 0 ≠ 35 then ctF l f (i + stp (l.drop i)) (if l.getD i 0 = 59 ∧ s < 0 then (i : Int) else s) else (i, s)
def ctp (l : List UInt8) : Nat × Int := ctF l (l.length + 1) 0 (-1)
theorem ctF_fst (l : List UInt8) : ∀ (f i : Nat) (s : Int), (ctF l f i s).1 = fdF 35 l f i
  | 0, _, _ => rfl
  | f + 1, i, s => by
    show (if _ then ctF l f (i + stp (l.drop i)) _ else (i, s)).1 = (if _ then fdF 35 l f (i + stp (l.drop i)) else i)
    split
    · exact ctF_fst l f _ _
    · rfl
theorem ctp_fst (l : List UInt8) : (ctp l).1 = fdp 35 l := ctF_fst l _ _ _
/-- Cutting so far. -/
def Ctg (l : List UInt8) (i : Nat) (s : Int) : Prop := ∃ f, l.length < f + i ∧ ctF l f i s = ctp l
theorem Ctg.step {l : List UInt8} {i : Nat} {s : Int} (h : Ctg l i s) (hi : i < l.length) (hb : l[i] ≠ 35) : Ctg l (i + stp (l.drop i)) (if l[i] = 59 ∧ s < 0 then (i : Int) else s) := by
  obtain ⟨f, h1, h2⟩ := h
  obtain ⟨f, rfl⟩ : ∃ f', f = f' + 1 := ⟨f - 1, by omega⟩
  have hg : l.getD i 0 = l[i] := by simp [List.getD, hi]
  have h5 := stp_pos (l.drop i)
  unfold ctF at h2
  rw [hg, if_pos ⟨hi, hb⟩] at h2
  exact ⟨f, by omega, h2⟩
theorem Ctg.stop {l : List UInt8} {i : Nat} {s : Int} (h : Ctg l i s) (hi : i = l.length ∨ l.getD i 0 = 35) (hle : i ≤ l.length) : ctp l = (i, s) := by
  obtain ⟨f, h1, h2⟩ := h
  obtain ⟨f, rfl⟩ : ∃ f', f = f' + 1 := ⟨f - 1, by omega⟩
  unfold ctF at h2
  rw [if_neg (fun h5 => by rcases hi with hi | hi; omega; exact h5.2 hi)] at h2
  exact h2.symm
set_option maxHeartbeats 2000000 in
set_option maxRecDepth 100000 in
theorem rcut_any (l : List UInt8) (w : World) (hl : l.length ≤ 100000) :
    Calls Tryz.prog 71 #[.string ⟨l.toArray⟩] w fun e w' => e = .returned (.tuple #[.string ⟨(l.take (ctp l).1).toArray⟩, .int .i64 (ctp l).2]) ∧ Below w.heap.size w w' := by
  have HSZ := hid (show (⟨l.toArray⟩ : ByteArray).size = l.length by show l.toArray.size = _; simp)
  go_enter Tryz.func71, Tryz.ntmps71
  go_wp2
  go_loopw [4, 5, 6, 7, 8] (fun x y _ _ _ wr => ∃ (i : Nat) (s : Int), x = .int .i64 s ∧ y = .int .i64 (i : Int) ∧ i ≤ l.length ∧ -1 ≤ s ∧ Hid (Ctg l i s) ∧ Below w.heap.size w wr) (fun _ y _ _ _ _ => l.length - (intOf y).toNat)
  case atStart => exact ⟨0, -1, rfl, rfl, by omega, by omega, ⟨l.length + 1, by omega, rfl⟩, Below.refl _ _⟩
  case round =>
    obtain ⟨i, s, rfl, rfl, hi, hs, HC, hBr⟩ := hrel
    have HBr := hid hBr
    clear hBr
    by_cases hlt : i < l.length
    · have hszk : i < (⟨l.toArray⟩ : ByteArray).size := by rw [HSZ.out]; exact hlt
      have i3 : (i : Int) < (l.length : Int) := by omega
      have i4 : (i : Int) ≤ (l.length : Int) := by omega
      have i0' : (0 : Int) ≤ (i : Int) := by omega
      have hq : (⟨l.toArray⟩ : ByteArray)[i]'hszk = l[i] := rfl
      have HQ := hid (rquoted_any l i wr hi hl)
      have HY := hid (qdd_yes l i hlt)
      have HNO := hid (qdd_no l i hlt)
      have HST := hid (fun h => HC.out.step hlt h)
      have HSP := hid (show l[i] = 35 → ctp l = (i, s) from fun h => HC.out.stop (.inr (by simp [List.getD, hlt, h])) hi)
      have hsl := stp_le (l.drop i) (fun e => by have h7 := congrArg List.length e; simp at h7; omega)
      simp only [List.length_drop] at hsl
      have HTX := hid (show (⟨l.toArray⟩ : ByteArray).extract 0 i = ⟨(l.take i).toArray⟩ from ext_take l i)
      obtain ⟨sp, hsp⟩ : ∃ sp, sp = stp (l.drop i) := ⟨_, rfl⟩
      rw [← hsp] at HY HNO HST hsl
      obtain ⟨⟨r, n, bq⟩, hqd⟩ : ∃ x, x = qdd l i := ⟨_, rfl⟩
      rw [← hqd] at HQ HY HNO
      unfold qdv at HQ
      dsimp only at HQ HY HNO
      generalize l[i] = b at *
      clear hsp hqd
      cases bq with
      | true =>
        obtain ⟨y1, y2⟩ := HY.out rfl
        have HN := hid (HST.out (by rw [y1]; decide))
        rw [y1, if_neg (by simp)] at HN
        rw [y2] at HN hsl
        clear HNO HST HSP y2 HY
        have e1 : IntKind.i64.wrap ((i : Int) + (n : Int)) = (i : Int) + (n : Int) := by rw [IntKind.wrap_i64]; omega
        have e2 : IntKind.i64.wrap ((i : Int) + (n : Int) + 2) = (i : Int) + (n : Int) + 2 := by rw [IntKind.wrap_i64]; omega
        go_wp2_with fail
        refine HQ.out.mono ?_
        rintro e w1 ⟨rfl, b1⟩
        have HB1 := hid (HBr.out.trans (b1.mono HBr.out.size))
        clear b1 HQ
        go_wp2
        go_roundw
        case rel => exact ⟨i + (n + 2), s, rfl, by go_num, by omega, hs, HN, HB1.out⟩
        case measure => simp [intOf]; omega
      | false =>
        have y2 := HNO.out rfl
        rw [y2] at HST
        clear HNO HY hsl
        by_cases c1 : b = 35
        · have HE := hid (HSP.out c1)
          subst c1
          go_wp2_with fail
          refine HQ.out.mono ?_
          rintro e w1 ⟨rfl, b1⟩
          have HB1 := hid (HBr.out.trans (b1.mono HBr.out.size))
          clear b1 HQ
          go_wp2
          go_ret2
          exact ⟨by rw [HE.out, ← HTX.out]; rfl, HB1.out⟩
        · have c1' : ((b.toNat : Int) == 35) = false := beq_eq_false_iff_ne.2 (fun e => c1 (UInt8.toNat_inj.1 (show b.toNat = 35 by omega)))
          have HN := hid (HST.out c1)
          clear HST HSP
          by_cases c2 : b = 59
          · subst c2
            by_cases c3 : s < 0
            · rw [if_pos ⟨rfl, c3⟩] at HN
              go_wp2_with fail
              refine HQ.out.mono ?_
              rintro e w1 ⟨rfl, b1⟩
              have HB1 := hid (HBr.out.trans (b1.mono HBr.out.size))
              clear b1 HQ
              go_wp2
              go_roundw
              case rel => exact ⟨i + 1, (i : Int), rfl, by go_num, by omega, by omega, HN, HB1.out⟩
              case measure => simp [intOf]; omega
            · rw [if_neg (fun h => c3 h.2)] at HN
              go_wp2_with fail
              refine HQ.out.mono ?_
              rintro e w1 ⟨rfl, b1⟩
              have HB1 := hid (HBr.out.trans (b1.mono HBr.out.size))
              clear b1 HQ
              go_wp2
              go_roundw
              case rel => exact ⟨i + 1, s, rfl, by go_num, by omega, hs, HN, HB1.out⟩
              case measure => simp [intOf]; omega
          · have c2' : ((b.toNat : Int) == 59) = false := beq_eq_false_iff_ne.2 (fun e => c2 (UInt8.toNat_inj.1 (show b.toNat = 59 by omega)))
            rw [if_neg (fun h => c2 h.1)] at HN
            go_wp2_with fail
            refine HQ.out.mono ?_
            rintro e w1 ⟨rfl, b1⟩
            have HB1 := hid (HBr.out.trans (b1.mono HBr.out.size))
            clear b1 HQ
            go_wp2
            go_roundw
            case rel => exact ⟨i + 1, s, rfl, by go_num, by omega, hs, HN, HB1.out⟩
            case measure => simp [intOf]; omega
    · have HE := hid (HC.out.stop (.inl (by omega)) hi)
      have hil : i = l.length := by omega
      have HTL := hid (show l.take i = l from List.take_of_length_le (by omega))
      have i3 : ¬ (i : Int) < (l.length : Int) := by omega
      clear hil
      go_wp2
      go_ret2
      exact ⟨by rw [HE.out, HTL.out]; rfl, HBr.out⟩
end Go.Proofs.YtohhokjlgihbgaaGreatDoor
