/- The contract of the iterator of strings.SplitSeq at the byte 10: it hands on the lines of a text. -/
import Derived.Test.YtohhokjlgihbgaaGreatDoorFCaught
import Derived.Test.YtohhokjlgihbgaaGreatDoorFStrs
import Derived.Test.YtohhokjlgihbgaaGreatDoorFIndex
import Derived.Test.YtohhokjlgihbgaaGreatDoorFRead
namespace Go.Proofs.YtohhokjlgihbgaaGreatDoor
open Go.RowKit Go.Shelf
attribute [local go_sem] Oper.semAt_some

/-- What the iterator has caught: the text that is left, and the byte 10. -/
structure SplAt (Bs : Nat) (l : List UInt8) (w : World) : Prop where
  s : Boxed w Bs 9 (.string ⟨l.toArray⟩)
  sep : Boxed w (Bs + 1) 9 (.string ⟨#[10]⟩)
  save : Boxed w (Bs + 2) 3 (.int .i64 0)
def KS (Bs k : Nat) : Prop := k = Bs ∨ k = Bs + 1 ∨ k = Bs + 2
theorem SplAt.keeps {Bs : Nat} {l : List UInt8} {w w' : World} (h : SplAt Bs l w) (hk : ∀ k, KS Bs k → w'.heap[k]? = w.heap[k]?) : SplAt Bs l w' :=
  ⟨(hk _ (.inl rfl)).trans h.s, (hk _ (.inr (.inl rfl))).trans h.sep, (hk _ (.inr (.inr rfl))).trans h.save⟩
/-- What a body must leave as it was: some blocks. -/
def Kq (K : Nat → Prop) (W W' : World) : Prop := ∀ k, K k → W'.heap[k]? = W.heap[k]?
theorem Kq_t {K : Nat → Prop} {A B C : World} (h : Kq K A B) (k : Kq K B C) : Kq K A C := fun i h1 => (k i h1).trans (h i h1)
/-- How long the text is that is left. -/
def spm (Bs : Nat) (w : World) : Nat := match w.cell? ⟨Bs, 0, none⟩ with
  | some (.string b) => b.size
  | _ => 0
theorem SplAt.spm {Bs : Nat} {l : List UInt8} {w : World} (h : SplAt Bs l w) : spm Bs w = l.length := by
  unfold Go.Proofs.YtohhokjlgihbgaaGreatDoor.spm
  rw [h.s.cell]
  show l.toArray.size = _
  simp
theorem SplAt.set {Bs : Nat} {l r : List UInt8} {w : World} (h : SplAt Bs l w) : SplAt Bs r (w.setCell ⟨Bs, 0, none⟩ (.string ⟨r.toArray⟩)) :=
  ⟨h.s.set _, h.sep.other (by omega) _, h.save.other (by omega) _⟩
def encL (x : List UInt8) : Array Value := #[.string ⟨x.toArray⟩]

set_option maxHeartbeats 1000000 in
theorem split_stops (n : Nat) (hn : 1 ≤ n) (Bs : Nat) (l : List UInt8) (w : World) (hS : SplAt Bs l w) (hl : l.length ≤ 1000000) :
    CaughtStops Fence.wide n Tryz.prog 86 #[.pointer (some ⟨Bs + 1, 0, none⟩), .pointer (some ⟨Bs, 0, none⟩), .pointer (some ⟨Bs + 1 + 1, 0, none⟩)] encL (some Bs) (fun W => ∃ s, SplAt Bs s W) (Kq (KS Bs)) (lns l) w := fun lp J Jx W hbW hJ hJx hY h0 => by
  have HSW := hid (hS.keeps (w' := W) (fun k hk => hbW.block k (by rcases hk with rfl | rfl | rfl; exact hS.s.lt; exact hS.sep.lt; exact hS.save.lt)))
  have HJ0 := hid h0
  have c1 := HSW.out.sep.cell
  clear hS hbW h0
  refine callsIn_of_wp Tryz.func86 rfl trivial ?_ rfl
  simp only [Tryz.ntmps86, List.size_toArray, List.length_cons, List.length_nil, Nat.reduceAdd, Nat.reduceSub, Array.replicate_succ, Array.replicate_zero, List.push_toArray, List.append_toArray, List.nil_append, List.cons_append]
  gi_wp2
  gi_loopw [7] (fun _ wr => ∃ (s : List UInt8) (pre : List (List UInt8)), s.length ≤ 1000000 ∧ Hid (lns l = pre ++ lns s) ∧ Hid (SplAt Bs s wr) ∧ Hid (J pre wr)) (fun _ wr => spm Bs wr)
  case atStart => exact ⟨l, [], hl, rfl, HSW, HJ0⟩
  case round =>
    obtain ⟨s, pre, hs, HL, HS, HJ⟩ := hrel
    have c1 := HS.out.s.cell
    have c2 := HS.out.sep.cell
    have c3 := HS.out.save.cell
    have HIX := hid (index_any s wr)
    have HMS := hid HS.out.spm
    rcases idx_cases s with ⟨hno, hix⟩ | ⟨Q, T, hse, hQ, hix⟩
    · rw [hix] at HIX
      have HL2 := hid (show lns l = pre ++ [s] by rw [HL.out, lns_no s hno])
      obtain ⟨fn, tmps, assign, body, hy, hR⟩ := hY pre s wr (by rw [HL2.out]; exact List.prefix_refl _) ⟨s, HS.out⟩ HJ.out
      dsimp only [encL] at hy
      clear hno hix hY
      gi_wp2_with fail
      refine ⟨trivial, (callsIn_wide.2 HIX.out).mono ?_⟩
      rintro e w1 ⟨rfl, hw⟩
      obtain rfl := hw.symm
      clear HIX
      gi_wp2
      refine hR.mono ?_
      rintro e W3 (⟨rfl, hJ3, hk3⟩ | ⟨rfl, hJx3⟩)
      · have HJ3 := hid hJ3
        clear hJ3 hk3
        gi_wp2
        go_end0
        exact ⟨⟨_, rfl⟩, .inl (by rw [HL2.out]; exact HJ3.out)⟩
      · have HJX := hid hJx3
        clear hJx3
        gi_wp2
        go_end0
        exact ⟨⟨_, rfl⟩, .inr ⟨pre ++ [s], by rw [HL2.out]; exact List.prefix_refl _, HJX.out⟩⟩
    · rw [hix] at HIX
      have HL2 := hid (show lns l = (pre ++ [Q]) ++ lns T by rw [HL.out, hse, lns_at Q T hQ]; simp)
      have hsl : s.length = Q.length + 1 + T.length := by rw [hse]; simp; omega
      obtain ⟨fn, tmps, assign, body, hy, hR⟩ := hY pre Q wr (by rw [HL2.out]; exact List.prefix_append _ _) ⟨s, HS.out⟩ HJ.out
      dsimp only [encL] at hy
      obtain ⟨q, hq⟩ : ∃ q, q = Q.length := ⟨_, rfl⟩
      rw [← hq] at HIX hsl
      have he1 : (⟨s.toArray⟩ : ByteArray).extract 0 q = ⟨Q.toArray⟩ := by rw [ext_take, hse, hq]; simp
      have HE2 := hid (show (⟨s.toArray⟩ : ByteArray).extract (q + 1) s.length = ⟨T.toArray⟩ by rw [ext_drop, hse, hq]; simp)
      have e1 : IntKind.i64.wrap ((q : Int) + 1) = ((q + 1 : Nat) : Int) := by rw [IntKind.wrap_i64]; omega
      have j0 : ¬ (q : Int) < 0 := by omega
      have j1 : (q : Int) ≤ (s.length : Int) := by omega
      have j2 : (q : Int) + 1 ≤ (s.length : Int) := by omega
      have j3 : (0 : Int) ≤ (q : Int) := by omega
      have j4 : (0 : Int) ≤ (q : Int) + 1 := by omega
      have HSN := hid hsl
      have hTs : T.length < s.length := by omega
      clear hse hQ hix hY hq hsl
      gi_wp2_with fail
      refine ⟨trivial, (callsIn_wide.2 HIX.out).mono ?_⟩
      rintro e w1 ⟨rfl, hw⟩
      obtain rfl := hw.symm
      clear HIX
      gi_wp2
      refine hR.mono ?_
      rintro e W3 (⟨rfl, hJ3, hk3⟩ | ⟨rfl, hJx3⟩)
      · have HS3 := hid (HS.out.keeps hk3)
        have HJ3 := hid hJ3
        have d1 := HS3.out.s.cell
        have d2 := HS3.out.sep.cell
        have f1 := HS3.out.s.frozen
        have HS4 := hid (HS3.out.set (r := T))
        have HJ4 := hid (hJ (pre ++ [Q]) W3 _ HJ3.out ⟨some Bs, grownBy_setCell' W3 Bs (.string ⟨T.toArray⟩), fun r e => .inl e⟩)
        have he2 := HE2.out
        clear hJ3 hk3 c1 c2 c3 hy he1
        gi_wp2
        go_roundw
        case rel => exact ⟨T, pre ++ [Q], by omega, HL2, HS4, HJ4⟩
        case measure => rw [HMS.out, HS4.out.spm]; omega
      · have HJX := hid hJx3
        clear hJx3 hy
        gi_wp2
        refine bodyPost_ret (results_none rfl _ _ _) rfl ?_
        exact ⟨⟨_, rfl⟩, .inr ⟨pre ++ [Q], (by rw [HL2.out]; exact List.prefix_append _ _), HJX.out⟩⟩
end Go.Proofs.YtohhokjlgihbgaaGreatDoor
