/- strings.Builder.grow at a builder without a buffer, told to the evaluator. -/
import Derived.Test.YtkjnaamlhkldmabGrX
import Derived.Test.YtkjnaamlhkldmabEvR
namespace Go.Proofs.Ytkjnaamlhkldmab
open Ev Go.RowKit
namespace Ev
theorem WR.like {μ : Mu} {A : AW} {w w' : World} (W : WR μ A w) (h : w'.heap = w.heap) : WR μ A w' := ⟨fun i o l hi hl => by rw [h]; exact W.has i o l hi hl, W.inj, W.dom⟩
theorem Ext.like {μ μ' : Mu} {A A' : AW} {w w1 w2 : World} (E : Ext μ A w μ' A' w1) (h : w2.heap = w1.heap) (ht : w2.tape = w1.tape) (ho : w2.os = w1.os) (hp : w2.output = w1.output) : Ext μ A w μ' A' w2 :=
  ⟨E.le, by rw [h]; exact E.size, ht.trans E.tape, ho.trans E.os, hp.trans E.output, fun b hb hn => by rw [h]; exact E.stay b hb hn, E.img, E.next, E.keep⟩
end Ev
noncomputable def ovGr : OvT := fun f args A => bif Nat.beq f 62 then
    match args with
    | [.pointer (some ⟨i, 0, none⟩), .int .i64 n] => match A.get i with
      | some (.cells [p, .slice none 0 0] t false none es) => bif decide (0 ≤ n) && decide (n ≤ 1000000) then
          some (.tuple ⟨[]⟩, (A.push (.cells [] 5 true none 1)).set i (some (.cells [p, .slice (some ⟨A.next, 0, none⟩) 0 unk] t false none es)))
        else none
      | _ => none
    | _ => none
  else none
set_option maxHeartbeats 1000000 in
theorem ovGr_ok : OvOK Try.prog ovGr := fun f args A v A' h μ w args' W hl => by
  unfold ovGr at h
  cases hb : Nat.beq f 62 with
  | false => rw [hb, cond_false] at h; cases h
  | true =>
    rw [hb, cond_true] at h
    have e := Nat.eq_of_beq_eq_true hb
    subst e
    clear hb
    split at h
    · rename_i i n
      split at h
      · rename_i p t es hg
        cases hc : (decide (0 ≤ n) && decide (n ≤ 1000000)) with
        | false => rw [hc, cond_false] at h; cases h
        | true =>
          rw [hc, cond_true] at h
          cases h
          obtain ⟨a1, r1, q1, v1, q2⟩ := hl
          obtain ⟨a2, r2, q3, v2, q4⟩ := q2
          simp only [LR] at q4
          subst q4 q3
          simp only [VR] at v1 v2
          subst v2
          obtain ⟨pa, rfl, hsp, l, hm, rfl⟩ := v1
          obtain rfl : args' = #[.pointer (some ⟨l.b, l.d + 0, none⟩), .int .i64 n] := Array.toList_inj.1 q1
          obtain ⟨o', h2, c, fr, rfl, s1, s2, s3, s4, s5, s6⟩ := W.has i _ l hg hm
          obtain ⟨d0, sz⟩ := s3 rfl
          rw [d0] at s5
          obtain ⟨p', y1, q5, vp, y2, y3, rfl, vs, q6⟩ := s5
          simp only [LR] at q6
          subst q6
          simp only [VR] at vs
          subst vs
          obtain rfl : fr = (0, 0) := s6
          have hcl : c = #[p', .slice none 0 0] := Array.toList_inj.1 (by
            have h3 : (c.toList.drop 0).take [p, Value.slice none 0 0].length = c.toList := by
              rw [List.drop_zero]; exact List.take_of_length_le (by rw [Array.length_toList, s1, ← sz]; exact Nat.le_refl _)
            rw [← h3]; exact q5)
          subst hcl
          have hn0 : 0 ≤ n := by simp at hc; exact hc.1
          have hn1 : n ≤ 1000000 := by simp at hc; exact hc.2
          obtain ⟨m, rfl⟩ := Int.eq_ofNat_of_zero_le hn0
          rw [d0]
          refine (grow_exact l.b m p' t w h2 (by omega)).mono ?_
          rintro e w' ⟨rfl, cs, rfl⟩
          have hlt := W.lt hg hm
          obtain ⟨W1, E1⟩ := W.new (d := 0) (sz := cs.size) (k := 1) (o := .cells [] 5 true none 1) (o' := .cells cs 5) ⟨cs, (0, 0), rfl, rfl, by simp, (fun h => by cases h), rfl, by simp [LR], rfl⟩
          have hne : i ≠ A.next := fun e => by
            have := W.dom i (by rw [e]; exact Nat.le_refl _)
            rw [this] at hm; cases hm
          have hd := W.dom A.next (Nat.le_refl _)
          have hle : Le μ (μ.add A.next ⟨w.heap.size, 0, cs.size, 1⟩) := Mu.add_le hd
          have hm1 := hle _ _ hm
          have hg1 : (A.push (.cells [] 5 true none 1)).get i = some (.cells [p, .slice none 0 0] t false none es) := by rw [AW.get_push, if_neg hne]; exact hg
          obtain ⟨W2, E2⟩ := W1.upd (o := .cells [p, .slice (some ⟨A.next, 0, none⟩) 0 unk] t false none es) (o' := .cells #[p', .slice (some ⟨w.heap.size, 0, none⟩) 0 cs.size] t) hg1 hm1
            ⟨_, (0, 0), rfl, s1, s2, (fun _ => ⟨d0, sz⟩), s4, by
              rw [d0]
              refine ⟨p', _, rfl, vp.mono hle, _, _, rfl, ?_, rfl⟩
              simp only [VR]
              exact ⟨_, _, rfl, .inr ⟨rfl, .inr ⟨rfl, Nat.zero_le _, _, Mu.add_get hd, rfl, by simp⟩⟩⟩, rfl⟩
          have hh : (((w.setCell ⟨l.b, 1, none⟩ (.slice (some ⟨w.heap.size, 0, none⟩) 0 cs.size)).alloc (.cells cs 5)).drew.drew.drew).heap = (w.heap.push (.cells cs 5)).setIfInBounds l.b (.cells #[p', .slice (some ⟨w.heap.size, 0, none⟩) 0 cs.size] t) := by
            show (w.setCell ⟨l.b, 1, none⟩ (.slice (some ⟨w.heap.size, 0, none⟩) 0 cs.size)).heap.push (.cells cs 5) = _
            apply Array.ext_getElem?
            intro j
            by_cases hj : l.b = j
            · subst hj
              rw [Array.getElem?_push, if_neg (by simp [World.setCell]; omega), Array.getElem?_setIfInBounds, if_pos rfl, if_pos (by simp; omega)]
              simp [World.setCell, Array.getElem?_modify, h2]
            · simp [World.setCell, Array.getElem?_push, Array.getElem?_modify, hj]
          exact ⟨_, by simp [ER, VR, LR], W2.like hh, (E1.trans E2).like hh rfl rfl rfl⟩
      · cases h
    · cases h
end Go.Proofs.Ytkjnaamlhkldmab
