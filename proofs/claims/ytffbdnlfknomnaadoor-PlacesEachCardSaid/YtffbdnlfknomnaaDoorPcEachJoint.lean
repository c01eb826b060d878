/- The iterator of endsOf (package places), its bodies told what comes. -/
import Derived.Test.YtffbdnlfknomnaaDoorPcRch0Joint
import Derived.Test.YtffbdnlfknomnaaDoorRngQJoint
import Derived.Test.YtffbdnlfknomnaaDoorPcPntJoint
import Derived.Laws.EntriesVeiled
import Derived.Test.YtffbdnlfknomnaaDoorRfLinJoint
import Derived.Test.YtffbdnlfknomnaaDoorLiveRun7
import Derived.Test.YtffbdnlfknomnaaDoorPcBackJoint
namespace Go.Proofs.YtffbdnlfknomnaaDoor.Wt
open Go.RowKit Go.Shelf
attribute [local go_sem] Oper.semAt_some

set_option maxHeartbeats 2000000 in
theorem ends_p (n Bs : Nat) (l : List UInt8) (L : List (Pn l)) (w : World) (hn : 3 ≤ n) (hL : L.map Pn.v = endsL l) (hR : WaAt Bs l w) (hl : l.length ≤ 1000000) :
    SeqP Fence.wide n Tryd.prog 62 #[.pointer (some ⟨Bs, 0, none⟩)] encN (fun _ => Kt) (fun xs => xs = L) (fun pre => pre <+: L) w := fun lp J Jx W hbW hJ hJx hY h0 => by
  unfold endsL at hL
  have HRW := hid (hR.below hbW)
  have hn1 : 1 ≤ n := by omega
  have hcW := HRW.out.bs.cell
  have HLL := hid hL
  have hsz : (⟨l.toArray⟩ : ByteArray).size = l.length := by show l.toArray.size = _; simp
  have HSZ := hid hsz
  clear hsz hR hbW hL
  refine callsIn_of_wp Tryd.func62 rfl trivial ?_ rfl
  simp only [Tryd.ntmps62, List.size_toArray, List.length_cons, List.length_nil, Nat.reduceAdd, Nat.reduceSub, Array.replicate_succ, Array.replicate_zero, List.push_toArray, List.append_toArray, List.nil_append, List.cons_append]
  gi_wp2
  have hJ0 : J [] (W.iter ⟨l.toArray⟩ 0) := hJ [] W _ none h0 (World.grownBy_alloc W _ none) (fun r e => by cases e)
  have hit0 : (W.iter ⟨l.toArray⟩ 0).heap[W.heap.size]? = some (.stringIter ⟨l.toArray⟩ 0) := World.iter_heap W _ 0
  have HW0 := hid (show WaAt Bs l (W.iter ⟨l.toArray⟩ 0) from HRW.out.below ((Below.refl _ _).alloc (Nat.le_refl _) _))
  clear hcW
  gi_loopw [3, 4] (fun _ _ wr => ∃ (t : Nat) (pre rest : List (Pn l)), t ≤ l.length ∧ Hid (rest.map Pn.v = ((rp l t).filter (endP l)).map (·.1)) ∧ Hid (L = pre ++ rest) ∧ Hid (wr.heap[W.heap.size]? = some (.stringIter ⟨l.toArray⟩ t)) ∧ Hid (J pre wr) ∧ Hid (WaAt Bs l wr)) (fun _ _ wr => l.length - wr.iterPos W.heap.size)
  case atStart => exact ⟨0, [], L, by omega, HLL, rfl, hit0, hJ0, HW0⟩
  case round =>
    obtain ⟨t, pre, rest, htl, HC, HP, HI, HJ, HR⟩ := hrel
    clear hJ0 hit0 HW0
    by_cases hlt : t < l.length
    · have hlti : (t : Int) < (l.length : Int) := by omega
      have hnx := wnext_at (P := Tryd.prog) wr W.heap.size ⟨l.toArray⟩ t 0 HI.out (by rw [HSZ.out]; exact hlt)
      rw [decode_place l t hlt] at hnx
      have hC2 := HC.out
      rw [rp_step l t hlt] at hC2
      have hne := drop_ne l t hlt
      have d1 := dec_ge _ hne
      have d2 := dec_le _ hne
      simp only [List.length_drop] at d2
      obtain ⟨nn, hnn⟩ : ∃ nn, nn = (dec (l.drop t)).2 := ⟨_, rfl⟩
      obtain ⟨rr, hrr⟩ : ∃ rr, rr = (dec (l.drop t)).1 := ⟨_, rfl⟩
      rw [← hnn] at hnx hC2 d1 d2
      rw [← hrr] at hnx hC2
      obtain ⟨w1, hw1⟩ : ∃ w1, w1 = wr.putObj W.heap.size (.stringIter ⟨l.toArray⟩ (t + nn)) := ⟨_, rfl⟩
      rw [← hw1] at hnx
      have hin : W.heap.size < wr.heap.size := (Array.getElem?_eq_some_iff.1 HI.out).1
      have HJ1 := hid (show J pre w1 by
        rw [hw1]
        exact hJ pre wr _ (some W.heap.size) HJ.out (grownBy_putObj' wr _ _) (fun r e => by cases e; exact ⟨Nat.le_refl _, _, HI.out, rfl⟩))
      have HI1 := hid (show w1.heap[W.heap.size]? = some (.stringIter ⟨l.toArray⟩ (t + nn)) by rw [hw1]; exact World.putObj_heap_same hin)
      have HR1 := hid (show WaAt Bs l w1 by
        rw [hw1]
        refine HR.out.keeps (by simp) fun k hk => World.putObj_heap_other ?_
        have := HRW.out.lt k hk
        omega)
      have HM := hid (show l.length - wr.iterPos W.heap.size = l.length - t by unfold World.iterPos; rw [HI.out])
      have HC2 := hid hC2
      clear hC2 hne hnn hrr hw1 hin HC HI HJ HR
      have HJ2 := HJ1
      gi_wp2_with fail
      refine ⟨trivial, (callsIn_wide.2 (endsLine_any rr w1)).mono ?_⟩
      rintro e w2 ⟨rfl, hw2⟩
      obtain rfl := hw2.symm
      clear hw2
      have hc1 := HR1.out.bs.cell
      cases hN : isN rr with
      | false =>
        have HRR := hid (show rest.map Pn.v = ((rp l (t + nn)).filter (endP l)).map (·.1) by
          rw [HC2.out, List.filter_cons_of_neg (by rw [show endP l (t, rr) = false by unfold endP; simp only []; rw [hN]; rfl]; simp)])
        clear hN hY
        gi_wp2_with fail
        refine ⟨trivial, ?_⟩
        gi_wp2_with fail
        refine ⟨fun _ h => (by cases h), ?_⟩
        gi_wp2
        go_roundw
        case rel => exact ⟨t + nn, pre, rest, by omega, HRR, HP, HI1, HJ1, HR1⟩
        case measure =>
          rw [HM.out]
          unfold World.iterPos
          rw [HI1.out]
          simp only []
          omega
      | true =>
        gi_wp2_with fail
        refine ⟨trivial, (callsIn_wide.2 (second_any l t w1 hlt hl)).mono ?_⟩
        rintro e w2 ⟨rfl, hw2⟩
        obtain rfl := hw2.symm
        clear hw2
        cases hS : sec l t with
        | true =>
          have HRR := hid (show rest.map Pn.v = ((rp l (t + nn)).filter (endP l)).map (·.1) by
            rw [HC2.out, List.filter_cons_of_neg (by rw [show endP l (t, rr) = false by unfold endP; simp only []; rw [hN, hS]; rfl]; simp)])
          clear hN hY hS
          gi_wp2_with fail
          refine ⟨fun _ h => (by cases h), ?_⟩
          gi_wp2
          go_roundw
          case rel => exact ⟨t + nn, pre, rest, by omega, HRR, HP, HI1, HJ1, HR1⟩
          case measure =>
            rw [HM.out]
            unfold World.iterPos
            rw [HI1.out]
            simp only []
            omega
        | false =>
          have HC3 := hid (show rest.map Pn.v = t :: ((rp l (t + nn)).filter (endP l)).map (·.1) by
            rw [HC2.out, List.filter_cons_of_pos (show endP l (t, rr) = true by unfold endP; simp only []; rw [hN, hS]; rfl)]; rfl)
          obtain ⟨x, R, rfl⟩ : ∃ x R, rest = x :: R := by
            cases rest with
            | nil => have h1 := HC3.out; cases h1
            | cons x R => exact ⟨x, R, rfl⟩
          have Hx := hid (List.cons.inj (HC3.out)).1
          have HR := hid (List.cons.inj (HC3.out)).2
          have HP2 := hid (show L = (pre ++ [x]) ++ R by rw [HP.out, List.append_assoc]; rfl)
          obtain ⟨fn, tmps, assign, body, hy, hRR⟩ := hY pre x w1 HJ1.out ⟨R, by rw [HP2.out]⟩
          dsimp only [encN] at hy
          rw [Hx.out] at hy
          clear hY HC2 HC3 hS hN
          gi_wp2
          refine hRR.mono ?_
          rintro e W3 ⟨hkf, (⟨rfl, hJ3, hk3⟩ | ⟨rfl, hJx3⟩)⟩
          · have HI3 := hid (hkf.same _ _ (Nat.le_refl _) HI1.out rfl)
            have HR3 := hid (HR1.out.kt hk3)
            have HJ3 := hid hJ3
            clear hJ3 hk3 hkf
            gi_wp2
            go_roundw
            case rel => exact ⟨t + nn, pre ++ [x], R, by omega, HR, HP2, HI3, HJ3, HR3⟩
            case measure =>
              rw [HM.out]
              unfold World.iterPos
              rw [HI3.out]
              simp only []
              omega
          · have HJX := hid hJx3
            clear hJx3
            gi_wp2
            refine bodyPost_ret (results_none rfl _ _ _) rfl ?_
            exact ⟨⟨_, rfl⟩, .inr ⟨pre ++ [x], ⟨R, by rw [HP2.out]⟩, HJX.out⟩⟩
    · have hnx := wnext_stop (P := Tryd.prog) wr W.heap.size ⟨l.toArray⟩ t 0 HI.out (by rw [HSZ.out]; exact hlt)
      have HF := hid (show L = pre by
        have h := HC.out
        rw [rp_end l t hlt] at h
        rw [HP.out, List.map_eq_nil_iff.1 h, List.append_nil])
      gi_wp2
      go_end0
      exact ⟨⟨_, rfl⟩, .inl ⟨_, rfl, by rw [HF.out]; exact HJ.out⟩⟩
end Go.Proofs.YtffbdnlfknomnaaDoor.Wt
/- Lines handed on one by one: the elements, and what a body leaves as it was. -/
namespace Go.Proofs.YtffbdnlfknomnaaDoor.Wt
open Go.RowKit Go.Shelf

/-- What a body leaves as it was: the tables, all cells of most types, and all that was laid from N on. -/
structure Kn (N : Nat) (X Y : World) : Prop where
  kt : Kt X Y
  rng : ∀ k, N ≤ k → k < X.heap.size → Y.heap[k]? = X.heap[k]?
theorem Kn_t (N : Nat) {A B C : World} (h : Kn N A B) (k : Kn N B C) : Kn N A C := ⟨Kt_t h.kt k.kt, fun i h1 h2 => (k.rng i h1 (Nat.lt_of_lt_of_le h2 h.kt.size)).trans (h.rng i h1 h2)⟩
theorem Kn_b {w : World} (hw : 2 ≤ w.heap.size) (W : World) (l : Nat) (o o' : Obj) (hl : w.heap.size ≤ l) (h : W.heap[l]? = some o) (hc : o.isCells = false) (hk : o.isWalk = false) : Kn (l + 1) W (W.putObj l o') :=
  ⟨Kt_b hw W l o o' hl h hc hk, fun k h1 _ => World.putObj_heap_other (by omega)⟩
theorem Kn.refl (N : Nat) (X : World) : Kn N X X := ⟨Kt.refl X, fun _ _ _ => rfl⟩
theorem Kn.below {N : Nat} {X Y : World} (h : Below X.heap.size X Y) (h2 : 2 ≤ X.heap.size) : Kn N X Y := ⟨Kt.below h h2, fun k _ h1 => h.block k h1⟩
theorem Kn.set {N : Nat} {W : World} {B : Nat} {c : Array Value} {t : Nat} (h : Cb W B c t) (ht : Wt.kt t = false) (h2 : 2 ≤ B) (hN : B < N) (i : Nat) (v : Value) : Kn N W (W.setCell ⟨B, i, none⟩ v) :=
  ⟨Kt.set h ht h2 i v, fun k h1 _ => Below.heap_setCell _ _ _ k (by show k ≠ B; omega)⟩
/-- The bytes of a line. -/
def lnS (l : List UInt8) (i : Nat) : List UInt8 := (l.take (lnT l i)).drop (lnF l i)
/-- A line by its number. -/
structure Le (l : List UInt8) where
  i : Nat
  le : i ≤ (endsL l).length
def encL {l : List UInt8} (x : Le l) : Array Value := #[.int .i64 (x.i : Nat), .string ⟨(lnS l x.i).toArray⟩]
theorem le_all (l : List UInt8) : ∀ n, n ≤ (endsL l).length + 1 → ∃ L : List (Le l), L.map Le.i = List.range n
  | 0, _ => ⟨[], rfl⟩
  | n + 1, h => by
    obtain ⟨L, hL⟩ := le_all l n (by omega)
    exact ⟨L ++ [⟨n, by omega⟩], by rw [List.map_append, hL, List.range_succ]; rfl⟩
/-- What comes next has its own number. -/
theorem le_next {l : List UInt8} {n : Nat} {L pre : List (Le l)} {x : Le l} (hL : L.map Le.i = List.range n) (h : pre ++ [x] <+: L) : x.i = pre.length ∧ pre.length < n := by
  obtain ⟨R, hR⟩ := h
  have h1 : L.length = n := by have := congrArg List.length hL; simpa using this
  have h2 : L[pre.length]? = some x := by rw [← hR, List.append_assoc, List.getElem?_append_right (Nat.le_refl _)]; simp
  have h3 : (L.map Le.i)[pre.length]? = some x.i := by rw [List.getElem?_map, h2]; rfl
  have hlt : pre.length < n := by rw [← h1, ← hR]; simp
  rw [hL, List.getElem?_range hlt] at h3
  exact ⟨(Option.some.inj h3).symm, hlt⟩
theorem pn_next {l : List UInt8} {B : List Nat} {L pre : List (Pn l)} {x : Pn l} (hL : L.map Pn.v = B) (h : pre ++ [x] <+: L) : B[pre.length]? = some x.v := by
  obtain ⟨R, hR⟩ := h
  rw [← hL, ← hR, List.append_assoc, List.map_append, List.getElem?_append_right (by rw [List.length_map]; exact Nat.le_refl _), List.length_map, Nat.sub_self]
  rfl
theorem le_inj {l : List UInt8} : ∀ {A B : List (Le l)}, A.map Le.i = B.map Le.i → A = B
  | [], [], _ => rfl
  | [], _ :: _, h => by cases h
  | _ :: _, [], h => by cases h
  | ⟨a, _⟩ :: A, ⟨b, _⟩ :: B, h => by
    obtain ⟨h1, h2⟩ := List.cons.inj h
    simp only [] at h1
    subst h1
    rw [le_inj h2]
/-- What the iterator has caught: the index. -/
structure EaAt (B X : Nat) (l : List UInt8) (ku kr kl ke : Value) (w : World) : Prop where
  bx : Cb w B #[.pointer (some ⟨X, 0, none⟩)] 35
  cb : Cb w X (ixc l ku kr kl ke) 78
  tb : TbW w
theorem EaAt.kt {B X : Nat} {l : List UInt8} {ku kr kl ke : Value} {w w' : World} (h : EaAt B X l ku kr kl ke w) (k : Kt w w') : EaAt B X l ku kr kl ke w' := ⟨h.bx.kt k rfl, h.cb.kt k rfl, h.tb.kt k⟩
theorem EaAt.below {B X : Nat} {l : List UInt8} {ku kr kl ke : Value} {w w' : World} (h : EaAt B X l ku kr kl ke w) (hb : Below w.heap.size w w') : EaAt B X l ku kr kl ke w' := h.kt (Kt.below hb h.tb.two)
theorem EaAt.keep {B X : Nat} {l : List UInt8} {ku kr kl ke : Value} {A C : World} {row : Option Nat} {n : Nat} (h : EaAt B X l ku kr kl ke A) (hg : A.grownBy C row) (hr : ∀ r, row = some r → n ≤ r ∧ ∃ o, A.heap[r]? = some o ∧ o.isCells = false) : EaAt B X l ku kr kl ke C :=
  ⟨cb_keep h.bx hg hr, cb_keep h.cb hg hr, ⟨⟨fun c hc => cell_kept (h.tb.tabs.1 c hc) hg (fun r e => (hr r e).2), fun i hi => ⟨cell_kept (h.tb.tabs.2 i hi).1 hg (fun r e => (hr r e).2), cell_kept (h.tb.tabs.2 i hi).2 hg (fun r e => (hr r e).2)⟩⟩, Nat.le_trans h.tb.two hg.size⟩⟩
end Go.Proofs.YtffbdnlfknomnaaDoor.Wt
/- The iterator of an index's Each (package places): it hands on the lines of a short text, one by one. -/
namespace Go.Proofs.YtffbdnlfknomnaaDoor.Wt
open Go.RowKit Go.Shelf
attribute [local go_sem] Oper.semAt_some

theorem ext_pc (l : List UInt8) (f t : Nat) (h : f ≤ t) : (⟨l.toArray⟩ : ByteArray).extract f t = ⟨((l.take t).drop f).toArray⟩ := by
  apply ByteArray.ext
  simp [ByteArray.data_extract, List.take_drop]
  rw [show f + (t - f) = t by omega]
theorem Cb.rng {N : Nat} {X Y : World} {B : Nat} {c : Array Value} {t : Nat} (h : Cb X B c t) (k : Kn N X Y) (hB : N ≤ B) : Cb Y B c t := (k.rng B hB h.lt).trans h
theorem take_snoc {α : Type} {L : List α} {k : Nat} (h : k < L.length) : L.take (k + 1) = L.take k ++ [L[k]] := List.take_succ_eq_append_getElem h
set_option maxHeartbeats 4000000 in
set_option maxRecDepth 100000 in
theorem each_p (n B X : Nat) (l : List UInt8) (ku kr kl ke : Value) (L : List (Le l)) (w : World) (hn : 6 ≤ n) (hL : L.map Le.i = List.range ((endsL l).length + 1)) (hR : EaAt B X l ku kr kl ke w) (hl : l.length ≤ 100) :
    SeqQ Fence.wide n Tryd.prog 38 #[.pointer (some ⟨B, 0, none⟩)] encL Kn (fun xs => xs = L) (fun pre => pre <+: L) w := fun lp J Jx W hbW hJ hJx hY h0 => by
  have HRW := hid (hR.below hbW)
  have h2 := HRW.out.tb.two
  have hBW := HRW.out.bx.lt
  have hXW := HRW.out.cb.lt
  have HLL := hid hL
  have hLn : L.length = (endsL l).length + 1 := by have := congrArg List.length hL; simpa using this
  have HLn := hid hLn
  obtain ⟨M, hM⟩ := pn_all l (endsL l) (ends_scl.lt l)
  have HM := hid hM
  have HLK := hid (show ∀ k (h : k < L.length), (L[k]).i = k from fun k h => by
    have h3 : (L.map Le.i)[k]? = some (L[k]).i := by rw [List.getElem?_map, List.getElem?_eq_getElem h]; rfl
    rw [hL, List.getElem?_range (by omega)] at h3
    exact (Option.some.inj h3).symm)
  clear hR hbW hL hM hLn
  have hn1 : 1 ≤ n := by omega
  obtain ⟨W3, hW3⟩ : ∃ W3, W3 = ((W.alloc (.cells #[.func (.yield lp) #[] #[]] 79)).alloc (.cells #[.int .i64 0] 3)).alloc (.cells #[.int .i64 0] 3) := ⟨_, rfl⟩
  have hB3 : Below W.heap.size W W3 := by rw [hW3]; exact (((Below.refl _ _).alloc (Nat.le_refl _) _).alloc (by simp) _).alloc (by simp; omega) _
  have HR3 := hid (HRW.out.below hB3)
  have hs3 : W3.heap.size = W.heap.size + 3 := by rw [hW3]; simp
  have b0 : Cb W3 W.heap.size #[.func (.yield lp) #[] #[]] 79 := by rw [hW3]; exact ((Cb.new W _ _).alloc _).alloc _
  have b1 : Cb W3 (W.heap.size + 1) #[.int .i64 0] 3 := by
    have := (Cb.new (W.alloc (.cells #[.func (.yield lp) #[] #[]] 79)) #[.int .i64 0] 3).alloc (.cells #[.int .i64 0] 3)
    rw [World.size_alloc] at this
    rw [hW3]; exact this
  have b2 : Cb W3 (W.heap.size + 1 + 1) #[.int .i64 0] 3 := by
    have := Cb.new ((W.alloc (.cells #[.func (.yield lp) #[] #[]] 79)).alloc (.cells #[.int .i64 0] 3)) #[.int .i64 0] 3
    rw [World.size_alloc, World.size_alloc] at this
    rw [hW3]; exact this
  have hc := HR3.out.bx.cell 0
  have ct : W3.cell? ⟨X, 0, none⟩ = some (.string ⟨l.toArray⟩) := HR3.out.cb.cell 0
  simp only [List.getElem?_toArray, List.getElem?_cons_zero] at hc
  rw [hW3] at hc ct
  refine callsIn_of_wp_marks Tryd.func38 rfl trivial ?_ rfl
  simp only [Tryd.ntmps38, List.size_toArray, List.length_cons, List.length_nil, Nat.reduceAdd, Nat.reduceSub, Array.replicate_succ, Array.replicate_zero, List.push_toArray, List.append_toArray, List.nil_append, List.cons_append]
  gi_wp2_with fail
  rw [← hW3]
  refine ⟨trivial, (callsIn_wide.2 (ends_mk l W3)).mono ?_⟩
  rintro e w' ⟨rfl, rfl⟩
  clear hc ct hW3
  have hB4 : Below W3.heap.size W3 (W3.alloc (.cells #[.string ⟨l.toArray⟩] 9)) := (Below.refl _ _).alloc (Nat.le_refl _) _
  have b3 := Boxed.new W3 9 (.string ⟨l.toArray⟩)
  obtain ⟨w4, hw4⟩ : ∃ w4, w4 = W3.alloc (.cells #[.string ⟨l.toArray⟩] 9) := ⟨_, rfl⟩
  have hs4 : w4.heap.size = W.heap.size + 4 := by rw [hw4]; simp; omega
  rw [← hw4] at hB4 b3 ⊢
  rw [hs3] at b3 ⊢
  clear hw4
  obtain ⟨A, hA⟩ : ∃ A, A = W.heap.size := ⟨_, rfl⟩
  have HJ4 := hid (show J [] w4 from hJ [] W _ none h0 (wgrown (hB3.trans (hB4.mono (by omega)))) (fun r e => by cases e))
  have HE4 := hid (HR3.out.below hB4)
  have d0 := b0.below hB4
  have d1 := b1.below hB4
  have d2 := b2.below hB4
  have HWA := hid (show WaAt (W.heap.size + 3) l w4 from ⟨b3, HE4.out.tb⟩)
  rw [← hA] at d0 d1 d2 hs4 h2 hBW hXW HWA ⊢
  have HAW := hid hA
  have HD := hid (And.intro d0 (And.intro d1 d2))
  have HJo := hid (show OwnAll A J by rw [hA]; exact hJ)
  have HJx := hid (show OwnAll A Jx by rw [hA]; exact hJx)
  have HY := hid (show ∀ pre x W1, J pre W1 → pre ++ [x] <+: L → YieldAt Fence.wide (n - 1) Tryd.prog lp (encL x) W1 fun e W' => KeepsFrom A W1 W' ∧ ((e = .returned (.bool true) ∧ J (pre ++ [x]) W' ∧ Kn A W1 W') ∨ (e = .returned (.bool false) ∧ Jx (pre ++ [x]) W')) by rw [hA]; exact hY)
  clear b0 b1 b2 b3 d0 d1 d2 hB3 hB4 hs3 HR3 h0 hA hY hJ hJx
  gi_wp2
  refine rangeP rfl hn1 rfl trivial (enters_of Tryd.func62 (by kernel_rfl) rfl) (ends_p (n - 1) (A + 3) l M w4 (by omega) HM.out HWA.out (by omega)) (fun _ => Kt_t) (Kt_b (by omega)) (Below.refl _ _) (fun _ => rfl)
    (fun pre V => (J (L.take pre.length) V ∧ EaAt B X l ku kr kl ke V ∧ A + 4 ≤ V.heap.size ∧ pre.length ≤ (endsL l).length) ∧ Cb V A #[.func (.yield lp) #[] #[]] 79 ∧ Cb V (A + 1) #[.int .i64 (pre.length : Nat)] 3 ∧ Cb V (A + 1 + 1) #[.int .i64 (lnF l pre.length : Nat)] 3)
    (fun c pre V => c = .ret ∧ Jx (L.take pre.length) V ∧ pre.length ≤ L.length) ?own ?ownx
    ⟨⟨HJ4.out, HE4.out, by omega, Nat.zero_le _⟩, HD.out.1, HD.out.2.1, HD.out.2.2⟩
    (fun x a' _ => a' = { tmps := #[.func (.yield lp) #[] #[], .pointer (some ⟨B, 0, none⟩), .pointer (some ⟨A, 0, none⟩), .pointer (some ⟨A + 1, 0, none⟩), .pointer (some ⟨A + 1 + 1, 0, none⟩), .int .i64 (x.v : Nat), .pointer (some ⟨X, 0, none⟩), .pointer (some ⟨X, 0, none⟩), .pointer (some ⟨X, 0, none⟩), .string ⟨l.toArray⟩, .func (.func 62) #[] #[.pointer (some ⟨A + 3, 0, none⟩)], .int .i64 (x.v : Nat), undef, undef, undef, undef, undef, undef, undef, undef, undef, undef, undef, undef, undef, undef, undef, undef, undef, undef, undef, undef, undef, undef, undef, undef, undef, undef, undef, undef], defers := [] })
    (fun _ _ _ _ _ _ h _ _ => h) ?assign ?body ?done ?stop
  case own =>
    rintro pre P C row ⟨⟨k0, k1, k2, k3⟩, k4, k5, k6⟩ hg hr
    exact ⟨⟨own_le HJo.out.from (by omega) _ P C row k0 hg hr, k1.keep hg hr, Nat.le_trans k2 hg.size, k3⟩, cb_keep k4 hg hr, cb_keep k5 hg hr, cb_keep k6 hg hr⟩
  case ownx =>
    rintro c pre P C row ⟨e, k0, k1⟩ hg hr
    exact ⟨e, own_le HJx.out.from (by omega) _ P C row k0 hg hr, k1⟩
  case assign =>
    intro lp2 pre x V K _ hI hK
    dsimp only [encN]
    gi_wp2
    exact hK _ _ (KeepsFrom.refl _ _) (Kt.refl _) hI rfl
  case body =>
    rintro lp2 pre x a' V hlp _ ⟨⟨kj, ke1, ks, kl1⟩, k0, k1, k2⟩ rfl hsp
    have hnx := pn_next HM.out hsp
    obtain ⟨k, hk⟩ : ∃ k, k = pre.length := ⟨_, rfl⟩
    have HPL := hid (show (pre ++ [x]).length = k + 1 by rw [hk]; simp)
    rw [← hk] at hnx kj k1 k2 kl1
    have hkE : k < (endsL l).length := (List.getElem?_eq_some_iff.1 hnx).1
    have hTk : lnT l k = x.v := by unfold lnT; rw [hnx]; rfl
    have hFT := lnF_le l k kl1
    have hk100 : k ≤ 100 := by have := ends_len l; omega
    have hkL : k < L.length := by rw [HLn.out]; omega
    obtain ⟨t, htt⟩ : ∃ t, t = x.v := ⟨_, rfl⟩
    obtain ⟨f, hf⟩ : ∃ f, f = lnF l k := ⟨_, rfl⟩
    have htl := x.lt
    rw [← htt] at hTk htl ⊢
    rw [hTk, ← hf] at hFT
    rw [← hf] at k2
    have HS := hid (show (lnS l k) = (l.take t).drop f by unfold lnS; rw [hTk, hf])
    have HF1 := hid (show nxl l t = lnF l (k + 1) by rw [lnF_succ, hTk])
    have HXK := hid (HLK.out k hkL)
    have HTS := hid (take_snoc hkL)
    have HYk := hid (fun V1 (hj : J (L.take k) V1) => HY.out (L.take k) (L[k]'hkL) V1 hj (by rw [← take_snoc hkL]; exact List.take_prefix _ _))
    have hfi : (f : Int) ≤ (t : Int) := by omega
    have hti : (t : Int) ≤ (l.length : Int) := by omega
    have HKK := hid (And.intro k0 (And.intro k1 (And.intro k2 ke1)))
    have HJV := hid (show J (L.take k) V.drew from HJo.out _ V _ none kj (wgrown ((Below.refl _ _).drew)) (fun r e => by cases e))
    have HKS := hid ks
    have HKL := hid kl1
    have HKP := hid hk
    clear k0 k1 k2 ke1 kj hnx hTk hk htt hf hFT htl
    gi_wp2_with fail
    refine wpIn_region_rd 9 [0, 1, 2, 3, 4, 5, 6, 7, 8] (fun w' => Cb w' A #[.func (.yield lp) #[] #[]] 79 ∧ Cb w' (A + 1) #[.int .i64 (k : Nat)] 3 ∧ Cb w' (A + 1 + 1) #[.int .i64 (f : Nat)] 3 ∧ EaAt B X l ku kr kl ke w') (wide_round lp2 _) (fun _ => trivial) (by kernel_rfl) (by kernel_rfl) (by kernel_rfl) (by decide) (by kernel_rfl) (by kernel_rfl) ⟨HKK.out.1.dr, HKK.out.2.1.dr, HKK.out.2.2.1.dr, HKK.out.2.2.2.below ((Below.refl _ _).drew)⟩ ?_
    iterate 9 (refine rd_free ?_ rfl (by kernel_rfl) (fun w' hS => ?_) ?_; (rotate_left; (have z0 := hS.1.cell 0; have z1 := hS.2.1.cell 0; have z2 := hS.2.2.1.cell 0; have z3 := hS.2.2.2.bx.cell 0; have z4 : w'.cell? ⟨X, 0, none⟩ = some (.string ⟨l.toArray⟩) := hS.2.2.2.cb.cell 0; simp only [List.getElem?_toArray, List.getElem?_cons_zero] at z0 z1 z2 z3; go_simp; with_reducible rfl); rotate_left))
    change wpAnyIn _ _ _ _ _ _ _ _ _ (World.drew _)
    refine wpAnyIn_ready (rs := [9]) (by kernel_rfl) (by simp) ?_
    refine AllReadyIn.cons rfl (fun KY hKY => ?_) AllReadyIn.nil
    obtain ⟨fn, tmps, assign, body, hy, hRR⟩ := HYk.out V.drew HJV.out
    dsimp only [encL] at hy
    rw [HXK.out, HS.out] at hy
    go_simp
    rw [ext_pc l f t (by omega)]
    rw [hy]
    simp only [Oper.uponIn]
    refine ⟨fun _ => by omega, (round_wide hRR).mono ?_⟩
    rintro e V3 ⟨hkf, (⟨rfl, hJ3, hk3⟩ | ⟨rfl, hJx3⟩)⟩
    · refine hKY _ _ ?_
      change wpAnyIn _ _ _ _ _ _ _ _ _ _
      refine wpAnyIn_ready (rs := [10]) (by kernel_rfl) (by simp) ?_
      refine AllReadyIn.cons rfl (fun KZ hKZ => ?_) AllReadyIn.nil
      go_simp
      refine hKZ _ _ ?_
      refine wpAnyIn_done (by kernel_rfl) (OnlyN.in ?_) _
      gi_wp2_with fail
      have e0 := HKK.out.1.dr.rng hk3 (Nat.le_refl _)
      have e1 := HKK.out.2.1.dr.rng hk3 (Nat.le_succ _)
      have e2 := HKK.out.2.2.1.dr.rng hk3 (by omega)
      have e3 := (HKK.out.2.2.2.below ((Below.refl _ _).drew)).kt hk3.kt
      have HE := hid (And.intro e0 (And.intro e1 (And.intro e2 e3)))
      have HFN := hid (show KeepsFrom w4.heap.size V V3 ∧ Kt V V3 from ⟨(KeepsFrom.of_grownBy (wgrown ((Below.refl _ _).drew)) (fun r e => by cases e)).trans (keeps_le hkf (by omega)), Kt_t (Kt.below ((Below.refl _ _).drew) (by omega)) hk3.kt⟩)
      obtain ⟨k1, hk1⟩ : ∃ k1 : Nat, k1 = k + 1 := ⟨_, rfl⟩
      have hkw : ((k : Nat) : Int) + 1 = (k1 : Int) := by omega
      have hkb : (k1 : Int) ≤ 101 := by omega
      have hkwr : IntKind.i64.wrap (k1 : Int) = (k1 : Int) := by rw [IntKind.wrap_i64]; omega
      have HK1 := hid hk1
      clear hk1
      clear e0 e1 e2 e3 hkf hk3
      refine wpIn_region_mixC [(0, 0), (1, 0), (2, 1), (3, 1), (4, 1), (5, 1), (6, 1), (7, 2), (8, 2), (9, 2)] (fun w' => Cb w' (A + 1) #[.int .i64 (k : Nat)] 3) (fun w' => EaAt B X l ku kr kl ke w') (fun j => j == 8) (wide_round lp2 _) (fun _ => trivial) (by kernel_rfl) (by kernel_rfl) (by kernel_rfl) (by intro j hj; simp at hj; subst hj; decide) (by decide) (by kernel_rfl) HE.out.2.1.dr (HE.out.2.2.2.below ((Below.refl _ _).drew)) ?_
      refine mixC_s (.int .i64 (k : Nat)) rfl (by kernel_rfl) (fun w' hS => ?_) ?_
      · have z1 := hS.cell 0
        simp only [List.getElem?_toArray, List.getElem?_cons_zero] at z1
        go_simp
      refine mixC_s (.int .i64 (k1 : Int)) rfl (by kernel_rfl) (fun w' hS => ?_) ?_
      · go_simp
      iterate 5 (refine mixC_t ?_ rfl (by kernel_rfl) (fun w' hS => ?_) ?_; (rotate_left; (have z3 := hS.bx.cell 0; have z4 : w'.cell? ⟨X, 0, none⟩ = some (.string ⟨l.toArray⟩) := hS.cb.cell 0; simp only [List.getElem?_toArray, List.getElem?_cons_zero] at z3; go_simp; with_reducible rfl); rotate_left))
      refine mixC_go rfl (by kernel_rfl) fun KW hKW => ?_
      go_simp
      refine (behind_any l t _ (HE.out.2.2.2.below ((Below.refl _ _).drew)).tb hl).mono ?_
      rintro e w5 ⟨rfl, hb5⟩
      have hb5' : Below V3.heap.size V3 w5 := ((Below.refl _ _).drew).trans (hb5.mono (by simp))
      have f0 := HE.out.1.below hb5'
      have f1 := HE.out.2.1.below hb5'
      have f2 := HE.out.2.2.1.below hb5'
      have fE := HE.out.2.2.2.below hb5'
      have HF5 := hid (show KeepsFrom w4.heap.size V w5 ∧ Kt V w5 from ⟨HFN.out.1.trans (KeepsFrom.of_grownBy (wgrown hb5') (fun r e => by cases e)), Kt_t HFN.out.2 (Kt.below hb5' HE.out.2.2.2.tb.two)⟩)
      have HJ5 := hid (show J (L.take k ++ [L[k]'hkL]) w5 from HJo.out _ V3 _ none hJ3 (wgrown hb5') (fun r e => by cases e))
      obtain ⟨nx, hnx⟩ : ∃ nx, nx = nxl l t := ⟨_, rfl⟩
      rw [← hnx] at HF1 ⊢
      have HV5 := hid (Nat.le_trans HFN.out.1.size (show V3.heap.size ≤ w5.heap.size from hb5'.size))
      refine hKW _ _ (fun _ => f1) fE ?_
      clear hKW hnx hb5 hb5' HE HFN hJ3
      refine mixC_go rfl (by kernel_rfl) fun KX hKX => ?_
      have c1 := f1.cell 0
      have z1 := f1.frozen 0
      simp only [List.getElem?_toArray, List.getElem?_cons_zero] at c1
      go_simp
      obtain ⟨w6, hw6⟩ : ∃ w6, w6 = w5.setCell ⟨A + 1, 0, none⟩ (.int .i64 (k1 : Int)) := ⟨_, rfl⟩
      have g0 : Cb w6 A #[.func (.yield lp) #[] #[]] 79 := by rw [hw6]; exact f0.other (by omega) _ _
      have g1 : Cb w6 (A + 1) #[.int .i64 (k1 : Int)] 3 := by rw [hw6]; exact f1.set 0 _
      have g2 : Cb w6 (A + 1 + 1) #[.int .i64 (f : Nat)] 3 := by rw [hw6]; exact f2.other (by omega) _ _
      have q6 : Kt w5 w6 := by rw [hw6]; exact Kt.set f1 rfl (by omega) _ _
      have gE := fE.kt q6
      have HJ6 := hid (show J (L.take k ++ [L[k]'hkL]) w6 by rw [hw6]; exact HJo.out.setCell _ HJ5.out (by omega))
      have HF6 := hid (show KeepsFrom w4.heap.size V w6 ∧ Kt V w6 from ⟨HF5.out.1.trans (by rw [hw6]; exact KeepsFrom.of_grownBy (grownBy_setCell' _ _ _) (fun r e => by cases e; omega)), Kt_t HF5.out.2 q6⟩)
      rw [← hw6]
      refine hKX _ _ (fun h => by cases h) gE ?_
      clear hKX hw6 f0 f1 f2 fE c1 z1 HF5 HJ5 q6
      refine mixC_go rfl (by kernel_rfl) fun KX hKX => ?_
      have c1 := g2.cell 0
      have z1 := g2.frozen 0
      simp only [List.getElem?_toArray, List.getElem?_cons_zero] at c1
      go_simp
      obtain ⟨w7, hw7⟩ : ∃ w7, w7 = w6.setCell ⟨A + 1 + 1, 0, none⟩ (.int .i64 (nx : Int)) := ⟨_, rfl⟩
      have i0 : Cb w7 A #[.func (.yield lp) #[] #[]] 79 := by rw [hw7]; exact g0.other (by omega) _ _
      have i1 : Cb w7 (A + 1) #[.int .i64 (k1 : Int)] 3 := by rw [hw7]; exact g1.other (by omega) _ _
      have i2 : Cb w7 (A + 1 + 1) #[.int .i64 (nx : Nat)] 3 := by rw [hw7]; exact g2.set 0 _
      have q7 : Kt w6 w7 := by rw [hw7]; exact Kt.set g2 rfl (by omega) _ _
      have iE := gE.kt q7
      have HJ7 := hid (show J (L.take k ++ [L[k]'hkL]) w7 by rw [hw7]; exact HJo.out.setCell _ HJ6.out (by omega))
      have HF7 := hid (show KeepsFrom w4.heap.size V w7 ∧ Kt V w7 from ⟨HF6.out.1.trans (by rw [hw7]; exact KeepsFrom.of_grownBy (grownBy_setCell' _ _ _) (fun r e => by cases e; omega)), Kt_t HF6.out.2 q7⟩)
      rw [← hw7]
      refine hKX _ _ (fun h => by cases h) iE ?_
      clear hKX hw7 g0 g1 g2 gE c1 z1 HF6 HJ6 q7
      refine mixC_end (OnlyN.in ?_)
      gi_wp2
      refine ⟨HF7.out.1, HF7.out.2, ⟨?_, iE, Nat.le_trans HKS.out HF7.out.1.size, by rw [HPL.out]; exact hkE⟩, i0, ?_, ?_⟩
      · rw [HPL.out, HTS.out]; exact HJ7.out
      · rw [HPL.out, ← HK1.out]; exact i1
      · rw [HPL.out, ← HF1.out]; exact i2
    · refine hKY _ _ ?_
      change wpAnyIn _ _ _ _ _ _ _ _ _ _
      refine wpAnyIn_ready (rs := [10]) (by kernel_rfl) (by simp) ?_
      refine AllReadyIn.cons rfl (fun KZ hKZ => ?_) AllReadyIn.nil
      go_simp
      refine hKZ _ _ ?_
      refine wpAnyIn_done (by kernel_rfl) (OnlyN.in ?_) _
      gi_wp2
      refine ⟨(KeepsFrom.of_grownBy (wgrown ((Below.refl _ _).drew)) (fun r e => by cases e)).trans (keeps_le hkf (by omega)), rfl, ?_, ?_⟩
      · rw [HPL.out, HTS.out]; exact hJx3
      · rw [HPL.out]; exact hkL
  case done =>
    rintro D xs V hD rfl ⟨⟨kj, ke1, ks, kl1⟩, k0, k1, k2⟩ hK
    have hML : xs.length = (endsL l).length := by have := congrArg List.length HM.out; simpa using this
    obtain ⟨k, hk⟩ : ∃ k, k = (endsL l).length := ⟨_, rfl⟩
    rw [hML, ← hk] at kj k1 k2
    have hE100 := ends_len l
    have hk100 : k ≤ 100 := by omega
    have hkL : k < L.length := by rw [HLn.out]; omega
    have hTk := lnT_end l k (by omega)
    have hFT := lnF_le l k (by omega)
    obtain ⟨f, hf⟩ : ∃ f, f = lnF l k := ⟨_, rfl⟩
    rw [hTk, ← hf] at hFT
    rw [← hf] at k2
    have HS := hid (show (lnS l k) = (l.take l.length).drop f by unfold lnS; rw [hTk, hf])
    have HXK := hid (HLK.out k hkL)
    have HTA := hid (show L.take k ++ [L[k]'hkL] = L by rw [← take_snoc hkL, show k + 1 = L.length by rw [HLn.out]; omega, List.take_length])
    have hfi : (f : Int) ≤ (l.length : Int) := by omega
    have HYk := hid (fun V1 (hj : J (L.take k) V1) => HY.out (L.take k) (L[k]'hkL) V1 hj (by rw [← take_snoc hkL]; exact List.take_prefix _ _))
    have HKK := hid (And.intro k0 (And.intro k1 (And.intro k2 ke1)))
    have HJV := hid (show J (L.take k) V.drew from HJo.out _ V _ none kj (wgrown ((Below.refl _ _).drew)) (fun r e => by cases e))
    have HKD := hid (show V.drew.heap[D]? = some (.deferred (some [])) from hK)
    clear k0 k1 k2 ke1 kj hTk hk hf hFT hK hML hE100 kl1 ks
    gi_wp2_with fail
    refine wpIn_region_rd 8 [0, 1, 2, 3, 4, 5, 6, 7] (fun w' => Cb w' A #[.func (.yield lp) #[] #[]] 79 ∧ Cb w' (A + 1) #[.int .i64 (k : Nat)] 3 ∧ Cb w' (A + 1 + 1) #[.int .i64 (f : Nat)] 3 ∧ EaAt B X l ku kr kl ke w') (fun _ _ _ _ h k => operIn_ofW _ h k) (fun _ => trivial) (by kernel_rfl) (by kernel_rfl) (by kernel_rfl) (by decide) (by kernel_rfl) (by kernel_rfl) ⟨HKK.out.1.dr, HKK.out.2.1.dr, HKK.out.2.2.1.dr, HKK.out.2.2.2.below ((Below.refl _ _).drew)⟩ ?_
    iterate 8 (refine rd_free ?_ rfl (by kernel_rfl) (fun w' hS => ?_) ?_; (rotate_left; (have z0 := hS.1.cell 0; have z1 := hS.2.1.cell 0; have z2 := hS.2.2.1.cell 0; have z3 := hS.2.2.2.bx.cell 0; have z4 : w'.cell? ⟨X, 0, none⟩ = some (.string ⟨l.toArray⟩) := hS.2.2.2.cb.cell 0; simp only [List.getElem?_toArray, List.getElem?_cons_zero] at z0 z1 z2 z3; go_simp; with_reducible rfl); rotate_left))
    change wpAnyIn _ _ _ _ _ _ _ _ _ (World.drew _)
    refine wpAnyIn_ready (rs := [8]) (by kernel_rfl) (by simp) ?_
    refine AllReadyIn.cons rfl (fun KY hKY => ?_) AllReadyIn.nil
    obtain ⟨fn, tmps, assign, body, hy, hRR⟩ := HYk.out V.drew HJV.out
    dsimp only [encL] at hy
    rw [HXK.out, HS.out] at hy
    go_simp
    trace_state
    rw [ext_pc l f l.length (by omega)]
    rw [hy]
    simp only [Oper.uponIn]
    refine ⟨fun _ => by omega, hRR.mono ?_⟩
    rintro e V3 ⟨hkf, (⟨rfl, hJ3, _⟩ | ⟨rfl, hJx3⟩)⟩
    · have hK3 := hkf.same D _ (by omega) HKD.out rfl
      refine hKY _ _ ?_
      refine wpAnyIn_done (by kernel_rfl) (OnlyN.in ?_) _
      gi_wp2
      refine ⟨by simp, .inl ⟨_, _, rfl, run_takeDeferred hK3, ?_⟩⟩
      exact ⟨_, results_none rfl _ _ _, ⟨_, rfl⟩, .inl ⟨_, rfl, by rw [HTA.out] at hJ3; exact HJo.out.putObj _ hJ3 (by omega) hK3 rfl⟩⟩
    · have hK3 := hkf.same D _ (by omega) HKD.out rfl
      refine hKY _ _ ?_
      refine wpAnyIn_done (by kernel_rfl) (OnlyN.in ?_) _
      gi_wp2
      refine ⟨by simp, .inl ⟨_, _, rfl, run_takeDeferred hK3, ?_⟩⟩
      exact ⟨_, results_none rfl _ _ _, ⟨_, rfl⟩, .inr ⟨_, List.prefix_refl _, by rw [HTA.out] at hJx3; exact HJx.out.putObj _ hJx3 (by omega) hK3 rfl⟩⟩
  case stop =>
    rintro D c pre V hD hp ⟨rfl, hj, hle⟩ hK
    gi_wp2
    refine ⟨by simp, .inl ⟨_, _, rfl, run_takeDeferred hK, ?_⟩⟩
    exact ⟨_, results_none rfl _ _ _, ⟨_, rfl⟩, .inr ⟨_, List.take_prefix _ _, HJx.out.putObj _ hj (by omega) hK rfl⟩⟩
end Go.Proofs.YtffbdnlfknomnaaDoor.Wt
/- PlacesEach: what the iterator is made of, and the law's walk. -/
namespace Go.Proofs.YtffbdnlfknomnaaDoor.Wt
open Go.RowKit Go.Shelf
attribute [local go_sem] Oper.semAt_some

/-- Each gives the iterator over a box of the index. -/
theorem each_mk (X : Nat) (w : World) :
    Calls Tryd.prog 13 #[.pointer (some ⟨X, 0, none⟩)] w fun e w' => e = .returned (.func (.func 38) #[] #[.pointer (some ⟨w.heap.size, 0, none⟩)]) ∧ w' = w.alloc (.cells #[.pointer (some ⟨X, 0, none⟩)] 35) := by
  go_enter Tryd.func13, Tryd.ntmps13
  go_wp2
  go_ret
  exact ⟨rfl, rfl⟩
end Go.Proofs.YtffbdnlfknomnaaDoor.Wt
/- Marks, frames and an iterator's contract within a round, for the walk of PlacesEach. -/
namespace Go.Proofs.YtffbdnlfknomnaaDoor.Wt
open Go.RowKit Go.Shelf
open Rf (lncs lnc lncs_succ)
/-- The marks that ranges over functions have left. -/
def mks (D : List Nat) : List Deferred := D.map fun d => { target := .collected d, args := #[] }
structure Marks (D : List Nat) (B : Nat) (w : World) : Prop where
  at' : ∀ d ∈ D, w.heap[d]? = some (.deferred (some []))
  low : ∀ d ∈ D, B ≤ d
  nodup : D.Nodup
theorem Marks.nil (B : Nat) (w : World) : Marks [] B w := ⟨fun _ h => (by cases h), fun _ h => (by cases h), List.nodup_nil⟩
/-- What shutting the marks leaves as it was. -/
structure Shutd (B : Nat) (X Y : World) : Prop where
  low : Below B X Y
  cells : ∀ (k : Nat) (o : Obj), X.heap[k]? = some o → o.isCells = true → Y.heap[k]? = some o
theorem Shutd.refl (B : Nat) (X : World) : Shutd B X X := ⟨Below.refl _ _, fun _ _ h _ => h⟩
theorem Shutd.trans {B : Nat} {X Y Z : World} (h : Shutd B X Y) (k : Shutd B Y Z) : Shutd B X Z := ⟨h.low.trans k.low, fun i o h1 h2 => k.cells i o (h.cells i o h1 h2) h2⟩
theorem leaves_marks {fn : Func} {tmps : Array Value} {R : Ending → World → Prop} (n B : Nat) : ∀ (D : List Nat) (w : World), Marks D B w → (∀ w', Shutd B w w' → LeavesIn Fence.wide n Tryd.prog fn tmps R [] .returning w') → LeavesInM Fence.wide n Tryd.prog fn tmps R (mks D) .returning w
  | [], w, _, h => h w (Shutd.refl B w)
  | d :: D, w, hm, h => by
    have hd := hm.at' d (.head _)
    have hlt := (Array.getElem?_eq_some_iff.1 hd).1
    have hs : Shutd B w (w.putObj d (.deferred none)) := ⟨(Below.refl B w).grown (grownBy_putObj' w d _) (by have := hm.low d (.head _); omega) (fun k e => by cases e; exact hm.low d (.head _)), fun k o h1 h2 => by
      have : k ≠ d := fun e => by subst e; rw [hd] at h1; cases h1; cases h2
      rw [World.putObj_heap_other this]; exact h1⟩
    refine ⟨by simp, .inl ⟨_, _, rfl, run_takeDeferred hd, leaves_marks n B D _ ⟨fun e he => ?_, fun e he => hm.low e (.tail _ he), (List.nodup_cons.1 hm.nodup).2⟩ (fun w' hw => h w' (hs.trans hw))⟩⟩
    have : e ≠ d := fun h1 => (List.nodup_cons.1 hm.nodup).1 (h1 ▸ he)
    rw [World.putObj_heap_other this]
    exact hm.at' e (.tail _ he)
/-- A loop by its rounds, with an invariant. -/
theorem wpIn_loop_inv {F : Fence} {n : Nat} {P : Program} {Q : Exit → Act → World → Prop} {c : Code} (Inv : Nat → Act → World → Prop) (h0 : ∀ a w, ¬ Inv 0 a w)
    (h : ∀ m a w, Inv (m + 1) a w → c.wpIn F n P (Exit.then (Inv m) Q) a w) (m : Nat) (a : Act) (w : World) (hi : Inv m a w) : (Code.loop c).wpIn F n P Q a w := by
  refine wpIn_loop_rounds m ?_
  have key : ∀ m a w, Inv m a w → Code.roundsIn F n P c Q m a w := by
    intro m
    induction m with
    | zero => exact fun a w hi => absurd hi (h0 a w)
    | succ m ih =>
      intro a w hi
      rw [roundsIn_succ]
      refine wpIn_mono (h m a w hi) ?_
      intro e a' w' hq
      cases e with
      | normal => exact ih a' w' hq
      | _ => exact hq
  exact key m a w hi
theorem ofFnE (f : Nat → Value) : Array.ofFn (fun i : Fin 90 => f i) = #[f 0, f 1, f 2, f 3, f 4, f 5, f 6, f 7, f 8, f 9, f 10, f 11, f 12, f 13, f 14, f 15, f 16, f 17, f 18, f 19, f 20, f 21, f 22, f 23, f 24, f 25, f 26, f 27, f 28, f 29, f 30, f 31, f 32, f 33, f 34, f 35, f 36, f 37, f 38, f 39, f 40, f 41, f 42, f 43, f 44, f 45, f 46, f 47, f 48, f 49, f 50, f 51, f 52, f 53, f 54, f 55, f 56, f 57, f 58, f 59, f 60, f 61, f 62, f 63, f 64, f 65, f 66, f 67, f 68, f 69, f 70, f 71, f 72, f 73, f 74, f 75, f 76, f 77, f 78, f 79, f 80, f 81, f 82, f 83, f 84, f 85, f 86, f 87, f 88, f 89] := by kernel_rfl
theorem frameE (a : Act) (D : List Deferred) (hs : a.tmps.size = 90) (hd : a.defers = D) (v0 v1 v2 v3 v4 v5 v6 v7 v8 : Value) (h0 : at_ a 0 = v0) (h1 : at_ a 1 = v1) (h2 : at_ a 2 = v2) (h3 : at_ a 3 = v3) (h4 : at_ a 4 = v4) (h5 : at_ a 5 = v5) (h6 : at_ a 6 = v6) (h7 : at_ a 7 = v7) (h8 : at_ a 8 = v8) :
    ∃ u : Nat → Value, a = { tmps := #[v0, v1, v2, v3, v4, v5, v6, v7, v8, u 9, u 10, u 11, u 12, u 13, u 14, u 15, u 16, u 17, u 18, u 19, u 20, u 21, u 22, u 23, u 24, u 25, u 26, u 27, u 28, u 29, u 30, u 31, u 32, u 33, u 34, u 35, u 36, u 37, u 38, u 39, u 40, u 41, u 42, u 43, u 44, u 45, u 46, u 47, u 48, u 49, u 50, u 51, u 52, u 53, u 54, u 55, u 56, u 57, u 58, u 59, u 60, u 61, u 62, u 63, u 64, u 65, u 66, u 67, u 68, u 69, u 70, u 71, u 72, u 73, u 74, u 75, u 76, u 77, u 78, u 79, u 80, u 81, u 82, u 83, u 84, u 85, u 86, u 87, u 88, u 89], defers := D } := by
  obtain ⟨t, d⟩ := a
  subst hd
  refine ⟨fun i => t.getD i undef, ?_⟩
  simp only [at_] at h0 h1 h2 h3 h4 h5 h6 h7 h8
  subst h0 h1 h2 h3 h4 h5 h6 h7 h8
  exact congrArg (fun t => (Act.mk t d : Act)) ((ofFn_all t hs).trans (ofFnE fun i => t.getD i undef))
theorem seqQ_in {α : Type} {n lp g : Nat} {lb : Array Value} {encs : α → Array Value} {Kp : Nat → World → World → Prop} {S Sp : List α → Prop} {w : World} (h : SeqQ Fence.wide n Tryd.prog g lb encs Kp S Sp w) : SeqQ (Fence.wide.inRound lp) n Tryd.prog g lb encs Kp S Sp w := h
theorem lncs_get (l : List UInt8) : ∀ (n i j : Nat), i < n → j < 3 → (lncs l n)[i * 3 + j]? = (lnc l i)[j]?
  | 0, i, j, h, _ => by omega
  | n + 1, i, j, h, hj => by
    have hlen : ∀ n, (lncs l n).length = n * 3 := fun n => by
      induction n with
      | zero => rfl
      | succ n ih => rw [lncs_succ, List.length_append, ih]; simp [lnc]; omega
    rw [lncs_succ]
    rcases Nat.lt_or_ge i n with h1 | h1
    · rw [List.getElem?_append_left (by rw [hlen]; omega)]
      exact lncs_get l n i j h1 hj
    · have e : i = n := by omega
      subst e
      rw [List.getElem?_append_right (by rw [hlen]; omega), hlen]
      congr 1
      omega
end Go.Proofs.YtffbdnlfknomnaaDoor.Wt
/- PlacesEach: the law's walk. -/
namespace Go.Proofs.YtffbdnlfknomnaaDoor.Wt
open Go.RowKit Go.Shelf
open Rf (lncs lnc lncs_succ rlines_any)
attribute [local go_sem] Oper.semAt_some

theorem eql_each (w : World) (B : Nat) : (binOp BinOp.eql 38 (Value.func (.func 38) #[] #[.pointer (some ⟨B, 0, none⟩)]) Value.nilFunc).run Tryd.prog w = Result.ok (Value.bool false) w := by kernel_rfl
attribute [local go_sem] eql_each
theorem results_bool {fn : Func} (h : fn.results = #[.cell 4 4]) (tmps : Array Value) (w : World) (g : Nat) (v : Value) (hp : tmps[4]?.getD undef = .pointer (some ⟨g, 0, none⟩)) (hg : Cb w g #[v] 4) : (results fn tmps).run Tryd.prog w = .ok v w := by
  have c := hg.cell 0
  simp only [List.getElem?_toArray, List.getElem?_cons_zero] at c
  simp only [results, h]
  go_simp
theorem act_to {Q : Exit → Act → World → Prop} {e : Exit} {a b : Act} {w : World} (h : a = b) (hq : Q e b w) : Q e a w := h ▸ hq
def Bw (w V : World) : Prop := Below w.heap.size w V
def Eqn (N : Nat) (w : World) : Prop := N = w.heap.size
theorem Marks.blk {D : List Nat} {B : Nat} {w w' : World} (h : Marks D B w) (he : ∀ d ∈ D, w'.heap[d]? = w.heap[d]?) : Marks D B w' := ⟨fun d hd => (he d hd).trans (h.at' d hd), h.low, h.nodup⟩
theorem Marks.lt {D : List Nat} {B : Nat} {w : World} (h : Marks D B w) {d : Nat} (hd : d ∈ D) : d < w.heap.size := (Array.getElem?_eq_some_iff.1 (h.at' d hd)).1
/-- What the law has laid ahead of its turns. -/
structure Lw (N EB X R b7 m cap : Nat) (cur : Array Value) (l : List UInt8) (st : Int) (ku kr kl ke : Value) (V : World) : Prop where
  s : Cb V N #[.string ⟨l.toArray⟩] 9
  stop : Cb V (N + 1) #[.int .i64 st] 3
  res : Cb V (N + 1 + 1) #[.bool false] 4
  e : Cb V (EB + 1) #[.func (.func 38) #[] #[.pointer (some ⟨EB, 0, none⟩)]] 38
  row : Cb V b7 #[.slice (some ⟨R, 0, none⟩) m cap] 40
  at' : Cb V R cur 43
  ea : EaAt EB X l ku kr kl ke V
theorem Lw.below {N EB X R b7 m cap : Nat} {cur : Array Value} {l : List UInt8} {st : Int} {ku kr kl ke : Value} {V V' : World} (h : Lw N EB X R b7 m cap cur l st ku kr kl ke V) (hb : Below V.heap.size V V') : Lw N EB X R b7 m cap cur l st ku kr kl ke V' :=
  ⟨h.s.below hb, h.stop.below hb, h.res.below hb, h.e.below hb, h.row.below hb, h.at'.below hb, h.ea.below hb⟩
/-- What stands between the turns. -/
structure Tn (N EB X b7 : Nat) (l : List UInt8) (st : Int) (w8 : World) (m : Nat) (a : Act) (wr : World) (t b8 : Nat) (D : List Nat) : Prop where
  size : a.tmps.size = 90
  df : a.defers = mks D
  t0 : at_ a 0 = .string ⟨l.toArray⟩
  t1 : at_ a 1 = .int .i64 st
  t2 : at_ a 2 = .pointer (some ⟨N, 0, none⟩)
  t3 : at_ a 3 = .pointer (some ⟨N + 1, 0, none⟩)
  t4 : at_ a 4 = .pointer (some ⟨N + 1 + 1, 0, none⟩)
  t5 : at_ a 5 = .pointer (some ⟨X, 0, none⟩)
  t6 : at_ a 6 = .pointer (some ⟨EB + 1, 0, none⟩)
  t7 : at_ a 7 = .pointer (some ⟨b7, 0, none⟩)
  t8 : at_ a 8 = .pointer (some ⟨b8, 0, none⟩)
  tm : t + m = 3
  tl : t ≤ 2
  low : Below w8.heap.size w8 wr
  bx : Cb wr b8 #[.int .i64 (t : Nat)] 3
  b8 : w8.heap.size ≤ b8
  mks' : Marks D w8.heap.size wr
set_option maxHeartbeats 4000000 in
set_option maxRecDepth 100000 in
theorem each_in (l : List UInt8) (st : Int) (w : World) (ht : TbW w) (hw : Ev.Tbs tabs w) :
    CallsIn Fence.wide 20 Tryd.prog 5 #[.string ⟨l.toArray⟩, .int .i64 st] w fun e w' => e = .returned (.bool true) ∧ Below w.heap.size w w' := by
  have HT := hid ht
  have HW := hid hw
  clear ht hw
  refine callsIn_of_wp_marks Tryd.func5 rfl trivial ?_ rfl
  simp only [Tryd.ntmps5, List.size_toArray, List.length_cons, List.length_nil, Nat.reduceAdd, Nat.reduceSub, Array.replicate_succ, Array.replicate_zero, List.push_toArray, List.append_toArray, List.nil_append, List.cons_append]
  obtain ⟨W3, hW3⟩ : ∃ W3, W3 = ((w.alloc (.cells #[.string ⟨l.toArray⟩] 9)).alloc (.cells #[.int .i64 st] 3)).alloc (.cells #[.bool false] 4) := ⟨_, rfl⟩
  have hB3 : Below w.heap.size w W3 := by rw [hW3]; exact (((Below.refl _ _).alloc (Nat.le_refl _) _).alloc (by simp) _).alloc (by simp; omega) _
  have hs3 : W3.heap.size = w.heap.size + 3 := by rw [hW3]; simp
  have a2 : Cb W3 w.heap.size #[.string ⟨l.toArray⟩] 9 := by rw [hW3]; exact ((Cb.new w _ _).alloc _).alloc _
  have a3 : Cb W3 (w.heap.size + 1) #[.int .i64 st] 3 := by
    have := (Cb.new (w.alloc (.cells #[.string ⟨l.toArray⟩] 9)) #[.int .i64 st] 3).alloc (.cells #[.bool false] 4)
    rw [World.size_alloc] at this
    rw [hW3]; exact this
  have a4 : Cb W3 (w.heap.size + 1 + 1) #[.bool false] 4 := by
    have := Cb.new ((w.alloc (.cells #[.string ⟨l.toArray⟩] 9)).alloc (.cells #[.int .i64 st] 3)) #[.bool false] 4
    rw [World.size_alloc, World.size_alloc] at this
    rw [hW3]; exact this
  obtain ⟨N, hN⟩ : ∃ N, N = w.heap.size := ⟨_, rfl⟩
  have c2 := a2.cell 0
  have c4 := a4.cell 0
  have z4 := a4.frozen 0
  simp only [List.getElem?_toArray, List.getElem?_cons_zero] at c2 c4
  rw [hW3] at c2 c4 z4
  by_cases hl : (100 : Int) < (l.length : Int)
  · gi_wp2_with fail
    rw [← hW3]
    refine ⟨trivial, (callsIn_wide.2 (lives7 W3 (tbs_below HW.out hB3))).mono ?_⟩
    rintro e w5 ⟨rfl, be⟩
    have b4 := a4.below be
    have HB5 := hid (hB3.trans (be.mono hB3.size))
    have c5 := b4.cell 0
    have z5 := b4.frozen 0
    simp only [List.getElem?_toArray, List.getElem?_cons_zero] at c5
    have HR := hid (show Cb (w5.setCell ⟨w.heap.size + 1 + 1, 0, none⟩ (.bool true)) (w.heap.size + 1 + 1) #[.bool true] 4 from b4.set 0 _)
    have HBR := hid (show Below w.heap.size w (w5.setCell ⟨w.heap.size + 1 + 1, 0, none⟩ (.bool true)) from HB5.out.setCell (by show w.heap.size ≤ w.heap.size + 1 + 1; omega) _)
    clear be hB3 hW3 c2 c4 z4 a2 a3 a4 b4
    gi_wp2
    exact ⟨_, results_bool rfl _ _ _ _ rfl HR.out, rfl, HBR.out⟩
  have hl2 : l.length ≤ 100 := by omega
  gi_wp2_with fail
  rw [← hW3]
  refine ⟨trivial, (callsIn_wide.2 (new_any l W3 (HT.out.below hB3) hl2)).mono ?_⟩
  rintro e w4 ⟨X, ku, kr, kl, ke, rfl, hI, be⟩
  have b2 := a2.below be
  have b3 := a3.below be
  have b4 := a4.below be
  have hB4 := hB3.trans (be.mono hB3.size)
  have hs4 := be.size
  have bX := hI.cb
  clear be hI hW3 c2 c4 z4 a2 a3 a4 hB3
  gi_wp2_with fail
  refine ⟨trivial, (callsIn_wide.2 (each_mk X w4)).mono ?_⟩
  rintro e w5 ⟨rfl, hw5⟩
  have hb5 : Below w4.heap.size w4 w5 := by rw [hw5]; exact (Below.refl _ _).alloc (Nat.le_refl _) _
  have bE : Cb w5 w4.heap.size #[.pointer (some ⟨X, 0, none⟩)] 35 := by rw [hw5]; exact Cb.new _ _ _
  have hs5 : w5.heap.size = w4.heap.size + 1 := by rw [hw5]; simp
  obtain ⟨EB, hEB⟩ : ∃ EB, EB = w4.heap.size := ⟨_, rfl⟩
  have d2 := b2.below hb5
  have d3 := b3.below hb5
  have d4 := b4.below hb5
  have dX := bX.below hb5
  rw [← hEB] at bE hs5 ⊢
  have hB5 := hB4.trans (hb5.mono hB4.size)
  have hlw : w.heap.size + 3 ≤ EB := by omega
  clear hw5 hb5 b2 b3 b4 bX hEB hs4 hs3 hB4
  obtain ⟨w6, hw6⟩ : ∃ w6, w6 = w5.alloc (.cells #[.func (.func 38) #[] #[.pointer (some ⟨EB, 0, none⟩)]] 38) := ⟨_, rfl⟩
  have hb6 : Below w5.heap.size w5 w6 := by rw [hw6]; exact (Below.refl _ _).alloc (Nat.le_refl _) _
  have f6 : Cb w6 w5.heap.size #[.func (.func 38) #[] #[.pointer (some ⟨EB, 0, none⟩)]] 38 := by rw [hw6]; exact Cb.new _ _ _
  have hs6 : w6.heap.size = w5.heap.size + 1 := by rw [hw6]; simp
  rw [hs5] at f6 hs6
  have f2 := d2.below hb6
  have f3 := d3.below hb6
  have f4 := d4.below hb6
  have fX := dX.below hb6
  have fE := bE.below hb6
  have hB6 := hB5.trans (hb6.mono hB5.size)
  have c6 := f6.cell 0
  have c2 := f2.cell 0
  simp only [List.getElem?_toArray, List.getElem?_cons_zero] at c2 c6
  rw [hw6] at c2 c6
  clear d2 d3 d4 dX bE hb6 hB5
  gi_wp2_with fail
  rw [← hw6]
  refine ⟨trivial, (callsIn_wide.2 (rlines_any l w6 hl2)).mono ?_⟩
  rintro e w7 ⟨v, rfl, hO, be⟩
  clear c2 c6 hw6
  obtain ⟨hxl, (⟨_, h0⟩ | ⟨R, cap, cur, rfl, hRb, hR, hcap1, hcap2, hcs, hct⟩)⟩ := hO
  · omega
  have g2 := f2.below be
  have g3 := f3.below be
  have g4 := f4.below be
  have g6 := f6.below be
  have gX := fX.below be
  have gE := fE.below be
  have hB7 := hB6.trans (be.mono hB6.size)
  have hs7 := be.size
  have gR : Cb w7 R cur 43 := hR
  clear f2 f3 f4 f6 fX fE be hB6 hR
  obtain ⟨w8, hw8⟩ : ∃ w8, w8 = w7.alloc (.cells #[.slice (some ⟨R, 0, none⟩) ((endsL l).length + 1) cap] 40) := ⟨_, rfl⟩
  have hb8 : Below w7.heap.size w7 w8 := by rw [hw8]; exact (Below.refl _ _).alloc (Nat.le_refl _) _
  have r7 : Cb w8 w7.heap.size #[.slice (some ⟨R, 0, none⟩) ((endsL l).length + 1) cap] 40 := by rw [hw8]; exact Cb.new _ _ _
  have hs8 : w8.heap.size = w7.heap.size + 1 := by rw [hw8]; simp
  obtain ⟨b7, hb7⟩ : ∃ b7, b7 = w7.heap.size := ⟨_, rfl⟩
  rw [← hb7] at r7 hs8
  have hB8 := hB7.trans (hb8.mono hB7.size)
  have HTB8 := hid (HT.out.below hB8)
  have HTs8 := hid (tbs_below HW.out hB8)
  have HBW := hid (show Bw w w8 from hB8)
  have HEN := hid (show Eqn N w from hN)
  rw [← hN] at *
  have HL8 := hid (show Lw N EB X R b7 ((endsL l).length + 1) cap cur l st ku kr kl ke w8 from ⟨g2.below hb8, g3.below hb8, g4.below hb8, g6.below hb8, r7, gR.below hb8, ⟨gE.below hb8, gX.below hb8, HTB8.out⟩⟩)
  clear g2 g3 g4 g6 gX gE gR r7 hb8 hB7
  have HB8 := hid hB8
  have HB7 := hid hb7
  clear hb7
  have HCT := hid (And.intro hcs hct)
  clear hB8 hcs hct hRb hxl
  gi_wp2_with fail
  rw [← hw8, ← HB7.out]
  obtain ⟨b8, hb8⟩ : ∃ b8, b8 = w8.heap.size := ⟨_, rfl⟩
  rw [show b7 + 1 = b8 by omega]
  have HT0 := hid (show Cb (w8.alloc (.cells #[.int .i64 0] 3)) b8 #[.int .i64 0] 3 by rw [hb8]; exact Cb.new _ _ _)
  refine wpIn_loop_inv (fun m a wr => ∃ t b8 D, Tn N EB X b7 l st w8 m a wr t b8 D) (fun a wr ⟨t, _, _, h⟩ => by have := h.tm; have := h.tl; omega) ?round 3 _ _ ⟨0, b8, [], ⟨rfl, rfl, rfl, rfl, rfl, rfl, rfl, rfl, rfl, rfl, rfl, rfl, by omega, (Below.refl _ _).alloc (Nat.le_refl _) _, HT0.out, by omega, Marks.nil _ _⟩⟩
  clear HT0 hb8 b8 hw8
  rintro m a wr ⟨t, b8, D, hI⟩
  obtain ⟨hsz, hdf, t0, t1, t2, t3, t4, t5, t6, t7, t8, htm, htl, hlow, hbx, hb8, hmk⟩ := hI
  obtain ⟨u, rfl⟩ := frameE a _ hsz hdf _ _ _ _ _ _ _ _ _ t0 t1 t2 t3 t4 t5 t6 t7 t8
  clear hsz hdf t0 t1 t2 t3 t4 t5 t6 t7 t8
  have HLR := hid (HL8.out.below hlow)
  have HLO := hid hlow
  have HMK := hid hmk
  have cb8 := hbx.cell 0
  simp only [List.getElem?_toArray, List.getElem?_cons_zero] at cb8
  have hwr := hlow.size
  clear hlow hmk
  obtain ⟨dd, hdd⟩ : ∃ dd, dd = mks D := ⟨_, rfl⟩
  rw [← hdd]
  by_cases ht2 : t < 2
  · have hti : (t : Int) < 2 := by omega
    obtain ⟨M, hM⟩ : ∃ M, M = wr.heap.size := ⟨_, rfl⟩
    obtain ⟨w9, hw9⟩ : ∃ w9, w9 = wr.alloc (.cells #[.int .i64 0] 3) := ⟨_, rfl⟩
    have hb9 : Below wr.heap.size wr w9 := by rw [hw9]; exact (Below.refl _ _).alloc (Nat.le_refl _) _
    have n9 : Cb w9 M #[.int .i64 0] 3 := by rw [hw9, hM]; exact Cb.new _ _ _
    have hs9 : w9.heap.size = M + 1 := by rw [hw9, hM]; simp
    have HL9 := hid (HLR.out.below hb9)
    have c6 := HL9.out.e.cell 0
    simp only [List.getElem?_toArray, List.getElem?_cons_zero] at c6
    rw [hw9] at c6
    obtain ⟨L, hL⟩ := le_all l ((endsL l).length + 1) (Nat.le_refl _)
    have HLL := hid hL
    have HM := hid hM
    rw [← hM] at hb9 hwr
    clear hL hM
    gi_wp2_with fail
    rw [← hw9, ← HM.out]
    clear c6 hw9
    refine rangeQ rfl (by omega) rfl trivial (enters_of Tryd.func38 (by kernel_rfl) rfl) (each_p 19 EB X l ku kr kl ke L w9 (by omega) HLL.out HL9.out.ea hl2) Kn_t (Kn_b HL9.out.ea.tb.two) (Below.refl _ _) (fun _ => rfl)
      (fun pre V => Below M wr V ∧ Cb V M #[.int .i64 (pre.length : Nat)] 3)
      (fun c pre V => c = .exit 2 ∧ t = 0 ∧ Below M wr V ∧ ∃ n : Nat, Cb V M #[.int .i64 (n : Nat)] 3) ?own ?ownx
      ⟨hb9, n9⟩
      (fun x a' _ => a' = { tmps := #[.string ⟨l.toArray⟩, .int .i64 st, .pointer (some ⟨N, 0, none⟩), .pointer (some ⟨N + 1, 0, none⟩), .pointer (some ⟨N + 1 + 1, 0, none⟩), .pointer (some ⟨X, 0, none⟩), .pointer (some ⟨EB + 1, 0, none⟩), .pointer (some ⟨b7, 0, none⟩), .pointer (some ⟨b8, 0, none⟩), .pointer (some ⟨M, 0, none⟩), .int .i64 (x.i : Nat), .string ⟨(lnS l x.i).toArray⟩, u 12, u 13, u 14, u 15, u 16, u 17, u 18, u 19, u 20, u 21, u 22, u 23, u 24, u 25, u 26, u 27, .int .i64 (t : Nat), .bool true, u 30, u 31, .func (.func 38) #[] #[.pointer (some ⟨EB, 0, none⟩)], .int .i64 (x.i : Nat), .string ⟨(lnS l x.i).toArray⟩, u 35, u 36, u 37, u 38, u 39, u 40, u 41, u 42, u 43, u 44, u 45, u 46, u 47, u 48, u 49, u 50, u 51, u 52, u 53, u 54, u 55, u 56, u 57, u 58, u 59, u 60, u 61, u 62, u 63, u 64, u 65, u 66, u 67, u 68, u 69, u 70, u 71, u 72, u 73, u 74, u 75, u 76, u 77, u 78, u 79, u 80, u 81, u 82, u 83, u 84, u 85, u 86, u 87, u 88, u 89], defers := [] })
      (fun _ _ _ _ _ _ h _ _ => h) ?assign ?body ?done ?stop
    case own =>
      rintro pre P C row ⟨k0, k1⟩ hg hr
      exact ⟨k0.grown hg (by rw [HM.out]; exact k0.size) (fun k hk => by have := hr k hk; omega), k1.kept hg (fun e => by have := hr _ e.symm; omega)⟩
    case ownx =>
      rintro c pre P C row ⟨e, k2, k0, n, k1⟩ hg hr
      exact ⟨e, k2, k0.grown hg (by rw [HM.out]; exact k0.size) (fun k hk => by have := hr k hk; omega), n, k1.kept hg (fun e => by have := hr _ e.symm; omega)⟩
    case assign =>
      intro lp pre x V K _ hI hK
      dsimp only [encL]
      gi_wp2
      exact hK _ _ (KeepsFrom.refl _ _) (Kn.refl _ _) hI rfl
    case body =>
      rintro lp pre x a' V hlp hrec ⟨kb, kn⟩ rfl hsp
      obtain ⟨hxi, hxl⟩ := le_next HLL.out hsp
      obtain ⟨k, hk⟩ : ∃ k, k = pre.length := ⟨_, rfl⟩
      have HPL := hid (show (pre ++ [x]).length = k + 1 by rw [hk]; simp)
      rw [← hk] at hxi hxl kn
      rw [hxi]
      have hE100 := ends_len l
      have hFT := lnF_le l k (by omega)
      have hTl := lnT_le l k
      obtain ⟨E, hE⟩ : ∃ E, E = (endsL l).length + 1 := ⟨_, rfl⟩
      obtain ⟨f, hf⟩ : ∃ f, f = lnF l k := ⟨_, rfl⟩
      obtain ⟨g, hg⟩ : ∃ g, g = lnT l k := ⟨_, rfl⟩
      have HLV := hid (HLR.out.below (by rw [← HM.out]; exact kb))
      have hct : ∀ j, j < 3 → cur[k * 3 + j]? = (lnc l k)[j]? := fun j hj => by
        rw [← lncs_get l ((endsL l).length + 1) k j hxl hj, ← HCT.out.2, List.getElem?_take_of_lt (by omega)]
        simp
      have cRf : V.cell? ⟨R, k * 3, none⟩ = some (.int .i64 (f : Nat)) := (HLV.out.at'.cell (k * 3)).trans ((hct 0 (by omega)).trans (by rw [hf]; rfl))
      have cRg : V.cell? ⟨R, k * 3 + 1, none⟩ = some (.int .i64 (g : Nat)) := (HLV.out.at'.cell (k * 3 + 1)).trans ((hct 1 (by omega)).trans (by rw [hg]; rfl))
      have c2 := HLV.out.s.cell 0
      have c7 := HLV.out.row.cell 0
      have c6 := HLV.out.e.cell 0
      have c3 := HLV.out.stop.cell 0
      have c9 := kn.cell 0
      have hV8 : Cb V b8 #[.int .i64 (t : Nat)] 3 := (kb.block b8 (by have := hbx.lt; rw [HM.out]; exact this)).trans hbx
      have c8 := hV8.cell 0
      simp only [List.getElem?_toArray, List.getElem?_cons_zero] at c2 c7 c6 c3 c9 c8
      rw [← hf, ← hg] at hFT
      rw [← hg] at hTl
      obtain ⟨S, hS⟩ : ∃ S, S = lnS l k := ⟨_, rfl⟩
      have hex : (⟨l.toArray⟩ : ByteArray).extract f g = ⟨S.toArray⟩ := by rw [ext_pc l f g hFT, hS]; unfold lnS; rw [← hg, ← hf]
      rw [← hS]
      have hki : (k : Int) < ((E : Nat) : Int) := by omega
      have hkN : k < E := by omega
      have hkG : ¬ ((E : Nat) : Int) ≤ (k : Int) := by omega
      have hkG2 : ¬ E ≤ k := by omega
      have HKP := hid hk
      have hk100 : k ≤ 100 := by omega
      have hfg : (f : Int) ≤ (g : Int) := by omega
      have hgl : (g : Int) ≤ (l.length : Int) := by omega
      have HE := hid hE
      rw [← hE] at c7
      clear hct hf hg hS hE hxi hE100 hFT hTl hk
      gi_wp2_with fail
      refine wpIn_region_mixC [(0, 1), (1, 1), (2, 1), (3, 1), (4, 1), (5, 1), (6, 1), (7, 1), (8, 1), (9, 1), (10, 1), (11, 1), (12, 1), (13, 1), (14, 1), (15, 1), (16, 1), (17, 1), (18, 1), (19, 1), (20, 1), (21, 1), (22, 1), (23, 1), (24, 1)] (fun _ => True) (fun w' => w'.cell? ⟨M, 0, none⟩ = some (.int .i64 (k : Nat)) ∧ w'.cell? ⟨b7, 0, none⟩ = some (.slice (some ⟨R, 0, none⟩) E cap) ∧ w'.cell? ⟨N, 0, none⟩ = some (.string ⟨l.toArray⟩) ∧ w'.cell? ⟨R, k * 3, none⟩ = some (.int .i64 (f : Nat)) ∧ w'.cell? ⟨R, k * 3 + 1, none⟩ = some (.int .i64 (g : Nat))) (fun _ => false) (wide_round lp _) (fun _ => trivial) (by kernel_rfl) (by kernel_rfl) (by kernel_rfl) (fun j hj => by cases hj) (by decide) (by kernel_rfl) trivial ⟨c9, c7, c2, cRf, cRg⟩ ?_
      refine mixC_t (.int .i64 (k : Nat)) rfl (by kernel_rfl) (fun w' hT => ?_) ?_
      · obtain ⟨z1, z2, z3, z4, z5⟩ := hT
        go_simp
      refine mixC_t (.slice (some ⟨R, 0, none⟩) E cap) rfl (by kernel_rfl) (fun w' hT => ?_) ?_
      · obtain ⟨z1, z2, z3, z4, z5⟩ := hT
        go_simp
      refine mixC_t (.int .i64 (E : Nat)) rfl (by kernel_rfl) (fun w' hT => ?_) ?_
      · obtain ⟨z1, z2, z3, z4, z5⟩ := hT
        go_simp
      refine mixC_t (.bool false) rfl (by kernel_rfl) (fun w' hT => ?_) ?_
      · obtain ⟨z1, z2, z3, z4, z5⟩ := hT
        go_simp
      refine mixC_t (.bool false) rfl (by kernel_rfl) (fun w' hT => ?_) ?_
      · obtain ⟨z1, z2, z3, z4, z5⟩ := hT
        go_simp
      refine mixC_t (.int .i64 (k : Nat)) rfl (by kernel_rfl) (fun w' hT => ?_) ?_
      · obtain ⟨z1, z2, z3, z4, z5⟩ := hT
        go_simp
      refine mixC_t (.int .i64 (k : Nat)) rfl (by kernel_rfl) (fun w' hT => ?_) ?_
      · obtain ⟨z1, z2, z3, z4, z5⟩ := hT
        go_simp
      refine mixC_t (.bool false) rfl (by kernel_rfl) (fun w' hT => ?_) ?_
      · obtain ⟨z1, z2, z3, z4, z5⟩ := hT
        go_simp
      refine mixC_t (.bool false) rfl (by kernel_rfl) (fun w' hT => ?_) ?_
      · obtain ⟨z1, z2, z3, z4, z5⟩ := hT
        go_simp
      refine mixC_t (.bool false) rfl (by kernel_rfl) (fun w' hT => ?_) ?_
      · obtain ⟨z1, z2, z3, z4, z5⟩ := hT
        go_simp
      refine mixC_t (.string ⟨S.toArray⟩) rfl (by kernel_rfl) (fun w' hT => ?_) ?_
      · obtain ⟨z1, z2, z3, z4, z5⟩ := hT
        go_simp
      refine mixC_t (.string ⟨l.toArray⟩) rfl (by kernel_rfl) (fun w' hT => ?_) ?_
      · obtain ⟨z1, z2, z3, z4, z5⟩ := hT
        go_simp
      refine mixC_t (.slice (some ⟨R, 0, none⟩) E cap) rfl (by kernel_rfl) (fun w' hT => ?_) ?_
      · obtain ⟨z1, z2, z3, z4, z5⟩ := hT
        go_simp
      refine mixC_t (.int .i64 (k : Nat)) rfl (by kernel_rfl) (fun w' hT => ?_) ?_
      · obtain ⟨z1, z2, z3, z4, z5⟩ := hT
        go_simp
      refine mixC_t (.pointer (some ⟨R, k * 3, none⟩)) rfl (by kernel_rfl) (fun w' hT => ?_) ?_
      · obtain ⟨z1, z2, z3, z4, z5⟩ := hT
        go_simp
      refine mixC_t (.pointer (some ⟨R, k * 3, none⟩)) rfl (by kernel_rfl) (fun w' hT => ?_) ?_
      · obtain ⟨z1, z2, z3, z4, z5⟩ := hT
        go_simp
      refine mixC_t (.int .i64 (f : Nat)) rfl (by kernel_rfl) (fun w' hT => ?_) ?_
      · obtain ⟨z1, z2, z3, z4, z5⟩ := hT
        go_simp
      refine mixC_t (.slice (some ⟨R, 0, none⟩) E cap) rfl (by kernel_rfl) (fun w' hT => ?_) ?_
      · obtain ⟨z1, z2, z3, z4, z5⟩ := hT
        go_simp
      refine mixC_t (.int .i64 (k : Nat)) rfl (by kernel_rfl) (fun w' hT => ?_) ?_
      · obtain ⟨z1, z2, z3, z4, z5⟩ := hT
        go_simp
      refine mixC_t (.pointer (some ⟨R, k * 3, none⟩)) rfl (by kernel_rfl) (fun w' hT => ?_) ?_
      · obtain ⟨z1, z2, z3, z4, z5⟩ := hT
        go_simp
      refine mixC_t (.pointer (some ⟨R, k * 3 + 1, none⟩)) rfl (by kernel_rfl) (fun w' hT => ?_) ?_
      · obtain ⟨z1, z2, z3, z4, z5⟩ := hT
        go_simp
      refine mixC_t (.int .i64 (g : Nat)) rfl (by kernel_rfl) (fun w' hT => ?_) ?_
      · obtain ⟨z1, z2, z3, z4, z5⟩ := hT
        go_simp
      refine mixC_t (.string ⟨S.toArray⟩) rfl (by kernel_rfl) (fun w' hT => ?_) ?_
      · obtain ⟨z1, z2, z3, z4, z5⟩ := hT
        go_simp
      refine mixC_t (.bool false) rfl (by kernel_rfl) (fun w' hT => ?_) ?_
      · obtain ⟨z1, z2, z3, z4, z5⟩ := hT
        go_simp
      refine mixC_t (.bool false) rfl (by kernel_rfl) (fun w' hT => ?_) ?_
      · obtain ⟨z1, z2, z3, z4, z5⟩ := hT
        go_simp
      refine mixC_end (OnlyN.in ?_)
      refine act_to (b := { tmps := #[.string ⟨l.toArray⟩, .int .i64 st, .pointer (some ⟨N, 0, none⟩), .pointer (some ⟨N + 1, 0, none⟩), .pointer (some ⟨N + 1 + 1, 0, none⟩), .pointer (some ⟨X, 0, none⟩), .pointer (some ⟨EB + 1, 0, none⟩), .pointer (some ⟨b7, 0, none⟩), .pointer (some ⟨b8, 0, none⟩), .pointer (some ⟨M, 0, none⟩), .int .i64 (k : Nat), .string ⟨S.toArray⟩, u 12, u 13, u 14, u 15, u 16, u 17, u 18, u 19, u 20, u 21, u 22, u 23, u 24, u 25, u 26, u 27, .int .i64 (t : Nat), .bool true, u 30, u 31, .func (.func 38) #[] #[.pointer (some ⟨EB, 0, none⟩)], .int .i64 (k : Nat), .string ⟨S.toArray⟩, .int .i64 (k : Nat), .slice (some ⟨R, 0, none⟩) E cap, .int .i64 (E : Nat), .bool false, .bool false, .int .i64 (k : Nat), .int .i64 (k : Nat), .bool false, .bool false, .bool false, .string ⟨S.toArray⟩, .string ⟨l.toArray⟩, .slice (some ⟨R, 0, none⟩) E cap, .int .i64 (k : Nat), .pointer (some ⟨R, k * 3, none⟩), .pointer (some ⟨R, k * 3, none⟩), .int .i64 (f : Nat), .slice (some ⟨R, 0, none⟩) E cap, .int .i64 (k : Nat), .pointer (some ⟨R, k * 3, none⟩), .pointer (some ⟨R, k * 3 + 1, none⟩), .int .i64 (g : Nat), .string ⟨S.toArray⟩, .bool false, .bool false, u 60, u 61, u 62, u 63, u 64, u 65, u 66, u 67, u 68, u 69, u 70, u 71, u 72, u 73, u 74, u 75, u 76, u 77, u 78, u 79, u 80, u 81, u 82, u 83, u 84, u 85, u 86, u 87, u 88, u 89], defers := [] }) (by kernel_rfl) ?_
      obtain ⟨K0, hK0⟩ : ∃ K0, K0 = V.heap.size := ⟨_, rfl⟩
      obtain ⟨V1, hV1⟩ : ∃ V1, V1 = (V.alloc (.cells #[.int .i64 0] 3)).drew := ⟨_, rfl⟩
      have vb : Below V.heap.size V V1 := by rw [hV1]; exact ((Below.refl _ _).alloc (Nat.le_refl _) _).drew
      have vk : Cb V1 K0 #[.int .i64 0] 3 := by rw [hV1, hK0]; exact (Cb.new V _ _).dr
      have hs1 : V1.heap.size = K0 + 1 := by rw [hV1, hK0]; simp
      have HLV1 := hid (HLV.out.below vb)
      have d6 := HLV1.out.e.cell 0
      simp only [List.getElem?_toArray, List.getElem?_cons_zero] at d6
      rw [hV1] at d6
      obtain ⟨r0, hr0⟩ := hrec
      have hlpV := (Array.getElem?_eq_some_iff.1 hr0).1
      have hr1 := (vb.block lp hlpV).trans hr0
      obtain ⟨k1, hk1⟩ : ∃ k1 : Nat, k1 = k + 1 := ⟨_, rfl⟩
      have hkw : ((k : Nat) : Int) + 1 = (k1 : Int) := by omega
      have hkwr : IntKind.i64.wrap (k1 : Int) = (k1 : Int) := by rw [IntKind.wrap_i64]; omega
      have HK1 := hid hk1
      have HK0 := hid hK0
      have hb8M : b8 < M := by have := hbx.lt; have := HM.out; omega
      have hNM : N + 1 < M := by have := HLR.out.stop.lt; have := HM.out; omega
      have hM2 : 2 ≤ M := by have := HLR.out.ea.tb.two; have := HM.out; omega
      have hMV : M < K0 := by have := kn.lt; omega
      clear hk1 hK0 c2 c7 c6 c3 c9 c8 cRf cRg
      gi_wp2_with fail
      rw [← hV1, ← HK0.out]
      clear d6 hV1
      rw [← HK0.out] at vb
      refine rangeQ_in rfl hr1 (by omega) rfl trivial (enters_of Tryd.func38 (by kernel_rfl) rfl) (seqQ_in (each_p 17 EB X l ku kr kl ke L V1 (by omega) HLL.out HLV1.out.ea hl2)) Kn_t (Kn_b HLV1.out.ea.tb.two) (Below.refl _ _) (fun _ => rfl)
        (fun pre2 U => Below K0 V U ∧ Cb U K0 #[.int .i64 (pre2.length : Nat)] 3)
        (fun c _ U => c = .exit 4 ∧ Below K0 V U) ?own2 ?ownx2 ⟨vb, vk⟩
        (fun x2 a2 _ => a2 = { tmps := #[.string ⟨l.toArray⟩, .int .i64 st, .pointer (some ⟨N, 0, none⟩), .pointer (some ⟨N + 1, 0, none⟩), .pointer (some ⟨N + 1 + 1, 0, none⟩), .pointer (some ⟨X, 0, none⟩), .pointer (some ⟨EB + 1, 0, none⟩), .pointer (some ⟨b7, 0, none⟩), .pointer (some ⟨b8, 0, none⟩), .pointer (some ⟨M, 0, none⟩), .int .i64 (k : Nat), .string ⟨S.toArray⟩, .pointer (some ⟨K0, 0, none⟩), .int .i64 (x2.i : Nat), u 14, u 15, u 16, u 17, u 18, u 19, u 20, u 21, u 22, u 23, u 24, u 25, u 26, u 27, .int .i64 (t : Nat), .bool true, u 30, u 31, .func (.func 38) #[] #[.pointer (some ⟨EB, 0, none⟩)], .int .i64 (k : Nat), .string ⟨S.toArray⟩, .int .i64 (k : Nat), .slice (some ⟨R, 0, none⟩) E cap, .int .i64 (E : Nat), .bool false, .bool false, .int .i64 (k : Nat), .int .i64 (k : Nat), .bool false, .bool false, .bool false, .string ⟨S.toArray⟩, .string ⟨l.toArray⟩, .slice (some ⟨R, 0, none⟩) E cap, .int .i64 (k : Nat), .pointer (some ⟨R, k * 3, none⟩), .pointer (some ⟨R, k * 3, none⟩), .int .i64 (f : Nat), .slice (some ⟨R, 0, none⟩) E cap, .int .i64 (k : Nat), .pointer (some ⟨R, k * 3, none⟩), .pointer (some ⟨R, k * 3 + 1, none⟩), .int .i64 (g : Nat), .string ⟨S.toArray⟩, .bool false, .bool false, .func (.func 38) #[] #[.pointer (some ⟨EB, 0, none⟩)], .int .i64 (x2.i : Nat), .string ⟨(lnS l x2.i).toArray⟩, u 63, u 64, u 65, u 66, u 67, u 68, u 69, u 70, u 71, u 72, u 73, u 74, u 75, u 76, u 77, u 78, u 79, u 80, u 81, u 82, u 83, u 84, u 85, u 86, u 87, u 88, u 89], defers := [] }) (fun _ _ _ _ _ _ h _ _ => h) ?assign2 ?body2 ?done2 ?stop2
      case own2 =>
        rintro pre2 P C row ⟨k0, k1⟩ hg hr
        exact ⟨k0.grown hg (by rw [HK0.out]; exact k0.size) (fun k hk => by have := hr k hk; omega), k1.kept hg (fun e => by have := hr _ e.symm; omega)⟩
      case ownx2 =>
        rintro c pre2 P C row ⟨e, k0⟩ hg hr
        exact ⟨e, k0.grown hg (by rw [HK0.out]; exact k0.size) (fun k hk => by have := hr k hk; omega)⟩
      case assign2 =>
        intro lp2 pre2 x2 U K _ hI hK
        dsimp only [encL]
        gi_wp2
        exact hK _ _ (KeepsFrom.refl _ _) (Kn.refl _ _) hI rfl
      case body2 =>
        rintro lp2 pre2 x2 a2 U hlp2 _ ⟨ub, un⟩ rfl hsp2
        obtain ⟨hxi2, hxl2⟩ := le_next HLL.out hsp2
        obtain ⟨j, hj⟩ : ∃ j, j = pre2.length := ⟨_, rfl⟩
        have HPL2 := hid (show (pre2 ++ [x2]).length = j + 1 by rw [hj]; simp)
        rw [← hj] at hxi2 hxl2 un
        rw [hxi2]
        obtain ⟨j1, hj1⟩ : ∃ j1 : Nat, j1 = j + 1 := ⟨_, rfl⟩
        have hjw : ((j : Nat) : Int) + 1 = (j1 : Int) := by omega
        have hE2 := ends_len l
        have hjwr : IntKind.i64.wrap (j1 : Int) = (j1 : Int) := by rw [IntKind.wrap_i64]; omega
        have cU := un.cell 0
        have zU := un.frozen 0
        have u3 : Cb U (N + 1) #[.int .i64 st] 3 := (ub.block (N + 1) (by omega)).trans HLV.out.stop
        simp only [List.getElem?_toArray, List.getElem?_cons_zero] at cU
        obtain ⟨U1, hU1⟩ : ∃ U1, U1 = U.setCell ⟨K0, 0, none⟩ (.int .i64 (j1 : Int)) := ⟨_, rfl⟩
        have q9 : Cb U1 K0 #[.int .i64 (j1 : Int)] 3 := by rw [hU1]; exact un.set 0 _
        have HQB := hid (show Below K0 V U1 by rw [hU1]; exact ub.setCell (Nat.le_refl K0) _)
        have HQK := hid (show KeepsFrom V1.heap.size U U1 by rw [hU1]; exact KeepsFrom.of_grownBy (grownBy_setCell' _ _ _) (fun r e => by cases e; omega))
        have HQN := hid (show Kn (lp2 + 1) U U1 by rw [hU1]; exact Kn.set un rfl (by omega) (by omega) 0 _)
        have hc9 : U1.cell? ⟨K0, 0, none⟩ = some (.int .i64 (j1 : Int)) := q9.cell 0
        have hc3 : U1.cell? ⟨N + 1, 0, none⟩ = some (.int .i64 st) := by rw [hU1]; exact (u3.other (by omega) 0 _).cell 0
        rw [hU1] at hc9 hc3
        have HJ1 := hid hj1
        clear hj hj1 hxi2 hE2 u3
        by_cases hst : st = (j1 : Int)
        · subst hst
          gi_wp2
          rw [← hU1]
          exact ⟨HQK.out, rfl, HQB.out⟩
        · have hst2 : ¬ (j1 : Int) = st := fun e => hst e.symm
          gi_wp2
          rw [← hU1]
          exact ⟨HQK.out, HQN.out, HQB.out, by rw [HPL2.out, ← HJ1.out]; exact q9⟩
      case done2 =>
        rintro xs U rfl ⟨ub, _⟩
        rw [HK0.out] at ub
        have hUM : Cb U M #[.int .i64 (k : Nat)] 3 := (ub.block M (by have := kn.lt; omega)).trans kn
        have cU9 := hUM.cell 0
        have zU9 := hUM.frozen 0
        have cU8 := ((show Cb U b8 #[.int .i64 (t : Nat)] 3 from (ub.block b8 hV8.lt).trans hV8)).cell 0
        have cU3 := ((show Cb U (N + 1) #[.int .i64 st] 3 from (ub.block (N + 1) HLV.out.stop.lt).trans HLV.out.stop)).cell 0
        simp only [List.getElem?_toArray, List.getElem?_cons_zero] at cU9 cU8 cU3
        obtain ⟨U1, hU1⟩ : ∃ U1, U1 = U.setCell ⟨M, 0, none⟩ (.int .i64 (k1 : Int)) := ⟨_, rfl⟩
        have q9 : Cb U1 M #[.int .i64 (k1 : Int)] 3 := by rw [hU1]; exact hUM.set 0 _
        have HQB := hid (show Below M wr U1 from by
          rw [hU1]
          exact (kb.trans (ub.mono (by have := kb.size; have := HM.out; omega))).setCell (Nat.le_refl M) _)
        have HQK := hid (show KeepsFrom (M + 1) V U1 from (KeepsFrom.of_grownBy (wgrown ub) (fun r e => by cases e)).trans (by rw [hU1]; exact KeepsFrom.of_grownBy (grownBy_setCell' _ _ _) (fun r e => by cases e; omega)))
        have HQN := hid (show Kn (lp + 1) V U1 from Kn_t _ (Kn.below ub HLV.out.ea.tb.two) (by rw [hU1]; exact Kn.set hUM rfl (by omega) (by omega) 0 _))
        have hc9 : U1.cell? ⟨M, 0, none⟩ = some (.int .i64 (k1 : Int)) := q9.cell 0
        have hc8 : U1.cell? ⟨b8, 0, none⟩ = some (.int .i64 (t : Nat)) := by rw [hU1]; exact ((show Cb U b8 #[.int .i64 (t : Nat)] 3 from (ub.block b8 hV8.lt).trans hV8).other (by omega) 0 _).cell 0
        have hc3 : U1.cell? ⟨N + 1, 0, none⟩ = some (.int .i64 st) := by rw [hU1]; exact ((show Cb U (N + 1) #[.int .i64 st] 3 from (ub.block (N + 1) HLV.out.stop.lt).trans HLV.out.stop).other (by omega) 0 _).cell 0
        rw [hU1] at hc9 hc8 hc3
        by_cases ht0 : t = 0
        · subst ht0
          by_cases hst : st = (k1 : Int)
          · subst hst
            gi_wp2
            rw [← hU1]
            first | exact ⟨HQK.out, rfl, rfl, HQB.out, _, q9⟩ | exact ⟨HQK.out, rfl, HQB.out, _, q9⟩ | exact ⟨HQK.out, HQB.out, _, q9⟩ | trace_state
          · have hst2 : ¬ (k1 : Int) = st := fun e => hst e.symm
            gi_wp2
            rw [← hU1]
            exact ⟨HQK.out, HQN.out, HQB.out, by rw [HPL.out, ← HK1.out]; exact q9⟩
        · obtain rfl : t = 1 := by omega
          gi_wp2
          rw [← hU1]
          exact ⟨by rw [hs9]; exact HQK.out, HQN.out, HQB.out, by rw [HPL.out, ← HK1.out]; exact q9⟩
      case stop2 =>
        rintro c pre2 U _ ⟨rfl, ub⟩
        rw [HK0.out] at ub
        have hUM : Cb U M #[.int .i64 (k : Nat)] 3 := (ub.block M (by have := kn.lt; omega)).trans kn
        have cU9 := hUM.cell 0
        have zU9 := hUM.frozen 0
        have cU8 := ((show Cb U b8 #[.int .i64 (t : Nat)] 3 from (ub.block b8 hV8.lt).trans hV8)).cell 0
        have cU3 := ((show Cb U (N + 1) #[.int .i64 st] 3 from (ub.block (N + 1) HLV.out.stop.lt).trans HLV.out.stop)).cell 0
        simp only [List.getElem?_toArray, List.getElem?_cons_zero] at cU9 cU8 cU3
        obtain ⟨U1, hU1⟩ : ∃ U1, U1 = U.setCell ⟨M, 0, none⟩ (.int .i64 (k1 : Int)) := ⟨_, rfl⟩
        have q9 : Cb U1 M #[.int .i64 (k1 : Int)] 3 := by rw [hU1]; exact hUM.set 0 _
        have HQB := hid (show Below M wr U1 from by
          rw [hU1]
          exact (kb.trans (ub.mono (by have := kb.size; have := HM.out; omega))).setCell (Nat.le_refl M) _)
        have HQK := hid (show KeepsFrom (M + 1) V U1 from (KeepsFrom.of_grownBy (wgrown ub) (fun r e => by cases e)).trans (by rw [hU1]; exact KeepsFrom.of_grownBy (grownBy_setCell' _ _ _) (fun r e => by cases e; omega)))
        have HQN := hid (show Kn (lp + 1) V U1 from Kn_t _ (Kn.below ub HLV.out.ea.tb.two) (by rw [hU1]; exact Kn.set hUM rfl (by omega) (by omega) 0 _))
        have hc9 : U1.cell? ⟨M, 0, none⟩ = some (.int .i64 (k1 : Int)) := q9.cell 0
        have hc8 : U1.cell? ⟨b8, 0, none⟩ = some (.int .i64 (t : Nat)) := by rw [hU1]; exact ((show Cb U b8 #[.int .i64 (t : Nat)] 3 from (ub.block b8 hV8.lt).trans hV8).other (by omega) 0 _).cell 0
        have hc3 : U1.cell? ⟨N + 1, 0, none⟩ = some (.int .i64 st) := by rw [hU1]; exact ((show Cb U (N + 1) #[.int .i64 st] 3 from (ub.block (N + 1) HLV.out.stop.lt).trans HLV.out.stop).other (by omega) 0 _).cell 0
        rw [hU1] at hc9 hc8 hc3
        by_cases ht0 : t = 0
        · subst ht0
          by_cases hst : st = (k1 : Int)
          · subst hst
            gi_wp2
            rw [← hU1]
            first | exact ⟨HQK.out, rfl, rfl, HQB.out, _, q9⟩ | exact ⟨HQK.out, rfl, HQB.out, _, q9⟩ | exact ⟨HQK.out, HQB.out, _, q9⟩ | trace_state
          · have hst2 : ¬ (k1 : Int) = st := fun e => hst e.symm
            gi_wp2
            rw [← hU1]
            exact ⟨HQK.out, HQN.out, HQB.out, by rw [HPL.out, ← HK1.out]; exact q9⟩
        · obtain rfl : t = 1 := by omega
          gi_wp2
          rw [← hU1]
          exact ⟨by rw [hs9]; exact HQK.out, HQN.out, HQB.out, by rw [HPL.out, ← HK1.out]; exact q9⟩
    case done =>
      rintro D' xs V hD' rfl ⟨kb, kn⟩ hK
      rw [show xs.length = (endsL l).length + 1 by have := congrArg List.length HLL.out; simpa using this] at kn
      have hV8 : Cb V b8 #[.int .i64 (t : Nat)] 3 := (kb.block b8 (by have := hbx.lt; rw [HM.out]; exact this)).trans hbx
      have cV8 := hV8.cell 0
      have cV7 := (HLR.out.row.below (by rw [← HM.out]; exact kb)).cell 0
      have cV9 := kn.cell 0
      simp only [List.getElem?_toArray, List.getElem?_cons_zero] at cV8 cV7 cV9
      have hVs := kb.size
      have HEnd := hid (show ∀ (w' : World) (a' : Act) (z : Int), z = (t : Int) + 1 → w' = V.alloc (.cells #[.int .i64 z] 3) → a'.tmps.size = 90 → a'.defers = { target := .collected D', args := #[] } :: mks D → at_ a' 0 = .string ⟨l.toArray⟩ → at_ a' 1 = .int .i64 st → at_ a' 2 = .pointer (some ⟨N, 0, none⟩) → at_ a' 3 = .pointer (some ⟨N + 1, 0, none⟩) → at_ a' 4 = .pointer (some ⟨N + 1 + 1, 0, none⟩) → at_ a' 5 = .pointer (some ⟨X, 0, none⟩) → at_ a' 6 = .pointer (some ⟨EB + 1, 0, none⟩) → at_ a' 7 = .pointer (some ⟨b7, 0, none⟩) → at_ a' 8 = .pointer (some ⟨V.heap.size, 0, none⟩) → Tn N EB X b7 l st w8 m a' w' (t + 1) V.heap.size (D' :: D) by
        rintro w' a' z hz rfl h1 h2 i0 i1 i2 i3 i4 i5 i6 i7 i8
        have hnew : Cb (V.alloc (.cells #[.int .i64 z] 3)) V.heap.size #[.int .i64 z] 3 := Cb.new V _ _
        rw [show z = ((t + 1 : Nat) : Int) by omega] at *
        have hsame : ∀ d, d < V.heap.size → (V.alloc (.cells #[.int .i64 ((t + 1 : Nat) : Int)] 3)).heap[d]? = V.heap[d]? := fun d hd => Below.heap_alloc _ _ _ hd
        have hDl : D' < V.heap.size := (Array.getElem?_eq_some_iff.1 hK).1
        have hm0 := HM.out
        refine ⟨h1, by rw [h2]; rfl, i0, i1, i2, i3, i4, i5, i6, i7, i8, by omega, by omega, ?_, hnew, by omega, ⟨fun d hd => ?_, fun d hd => ?_, ?_⟩⟩
        · refine HLO.out.trans ⟨?_, ?_, ?_, ?_, fun k hk => ?_⟩
          · exact kb.os
          · exact kb.tape
          · exact kb.output
          · exact Nat.le_trans (by omega) (Nat.le_of_lt hnew.lt)
          · exact (hsame k (by omega)).trans (kb.block k (by omega))
        · rcases List.mem_cons.1 hd with rfl | hd
          · exact (hsame _ hDl).trans hK
          · have := HMK.out.lt hd
            exact ((hsame d (by omega)).trans (kb.block d (by omega))).trans (HMK.out.at' d hd)
        · rcases List.mem_cons.1 hd with rfl | hd
          · omega
          · exact HMK.out.low d hd
        · refine List.nodup_cons.2 ⟨fun h => ?_, HMK.out.nodup⟩
          have := HMK.out.lt h
          omega)
      clear hV8 hbx cb8 hK HMK HLO kb kn
      rcases (show t = 0 ∨ t = 1 by omega) with rfl | rfl
      · gi_wp2
        exact ⟨_, _, _, HEnd.out _ _ _ (by omega) rfl rfl rfl rfl rfl rfl rfl rfl rfl rfl rfl rfl⟩
      · gi_wp2
        exact ⟨_, _, _, HEnd.out _ _ _ (by omega) rfl rfl rfl rfl rfl rfl rfl rfl rfl rfl rfl rfl⟩
    case stop =>
      rintro D' c pre V hD' hp ⟨rfl, ht0, kb, n, kn⟩ hK
      have hV8 : Cb V b8 #[.int .i64 (t : Nat)] 3 := (kb.block b8 (by have := hbx.lt; rw [HM.out]; exact this)).trans hbx
      have cV8 := hV8.cell 0
      have cV7 := (HLR.out.row.below (by rw [← HM.out]; exact kb)).cell 0
      have cV9 := kn.cell 0
      simp only [List.getElem?_toArray, List.getElem?_cons_zero] at cV8 cV7 cV9
      have hVs := kb.size
      have HEnd := hid (show ∀ (w' : World) (a' : Act) (z : Int), z = (t : Int) + 1 → w' = V.alloc (.cells #[.int .i64 z] 3) → a'.tmps.size = 90 → a'.defers = { target := .collected D', args := #[] } :: mks D → at_ a' 0 = .string ⟨l.toArray⟩ → at_ a' 1 = .int .i64 st → at_ a' 2 = .pointer (some ⟨N, 0, none⟩) → at_ a' 3 = .pointer (some ⟨N + 1, 0, none⟩) → at_ a' 4 = .pointer (some ⟨N + 1 + 1, 0, none⟩) → at_ a' 5 = .pointer (some ⟨X, 0, none⟩) → at_ a' 6 = .pointer (some ⟨EB + 1, 0, none⟩) → at_ a' 7 = .pointer (some ⟨b7, 0, none⟩) → at_ a' 8 = .pointer (some ⟨V.heap.size, 0, none⟩) → Tn N EB X b7 l st w8 m a' w' (t + 1) V.heap.size (D' :: D) by
        rintro w' a' z hz rfl h1 h2 i0 i1 i2 i3 i4 i5 i6 i7 i8
        have hnew : Cb (V.alloc (.cells #[.int .i64 z] 3)) V.heap.size #[.int .i64 z] 3 := Cb.new V _ _
        rw [show z = ((t + 1 : Nat) : Int) by omega] at *
        have hsame : ∀ d, d < V.heap.size → (V.alloc (.cells #[.int .i64 ((t + 1 : Nat) : Int)] 3)).heap[d]? = V.heap[d]? := fun d hd => Below.heap_alloc _ _ _ hd
        have hDl : D' < V.heap.size := (Array.getElem?_eq_some_iff.1 hK).1
        have hm0 := HM.out
        refine ⟨h1, by rw [h2]; rfl, i0, i1, i2, i3, i4, i5, i6, i7, i8, by omega, by omega, ?_, hnew, by omega, ⟨fun d hd => ?_, fun d hd => ?_, ?_⟩⟩
        · refine HLO.out.trans ⟨?_, ?_, ?_, ?_, fun k hk => ?_⟩
          · exact kb.os
          · exact kb.tape
          · exact kb.output
          · exact Nat.le_trans (by omega) (Nat.le_of_lt hnew.lt)
          · exact (hsame k (by omega)).trans (kb.block k (by omega))
        · rcases List.mem_cons.1 hd with rfl | hd
          · exact (hsame _ hDl).trans hK
          · have := HMK.out.lt hd
            exact ((hsame d (by omega)).trans (kb.block d (by omega))).trans (HMK.out.at' d hd)
        · rcases List.mem_cons.1 hd with rfl | hd
          · omega
          · exact HMK.out.low d hd
        · refine List.nodup_cons.2 ⟨fun h => ?_, HMK.out.nodup⟩
          have := HMK.out.lt h
          omega)
      clear hV8 hbx cb8 hK HMK HLO kb kn
      subst ht0
      gi_wp2
      exact ⟨_, _, _, HEnd.out _ _ _ (by omega) rfl rfl rfl rfl rfl rfl rfl rfl rfl rfl rfl rfl⟩
  · obtain rfl : t = 2 := by omega
    gi_wp2_with fail
    refine ⟨trivial, (callsIn_wide.2 (lives7 wr (tbs_below HTs8.out HLO.out))).mono ?_⟩
    rintro e w5 ⟨rfl, be⟩
    have b4 := HLR.out.res.below be
    have c5 := b4.cell 0
    have z5 := b4.frozen 0
    simp only [List.getElem?_toArray, List.getElem?_cons_zero] at c5
    have hN2 := HL8.out.res.lt
    obtain ⟨w6, hw6⟩ : ∃ w6, w6 = w5.setCell ⟨N + 1 + 1, 0, none⟩ (.bool true) := ⟨_, rfl⟩
    have HR := hid (show Cb w6 (N + 1 + 1) #[.bool true] 4 by rw [hw6]; exact b4.set 0 _)
    have HBR := hid (show Bw w w6 by
      have h1 : Below w.heap.size w w5 := (HBW.out.trans (HLO.out.mono HBW.out.size)).trans (be.mono (Nat.le_trans HBW.out.size HLO.out.size))
      rw [hw6]
      exact h1.setCell (by show w.heap.size ≤ N + 1 + 1; have := HEN.out; unfold Eqn at this; omega) _)
    have HM6 := hid (show Marks D w8.heap.size w6 from HMK.out.blk (fun d hd => by
      have h1 := HMK.out.lt hd
      have h2 := HMK.out.low d hd
      rw [hw6]
      exact (Below.heap_setCell _ _ _ d (by show d ≠ N + 1 + 1; omega)).trans (be.block d h1)))
    have hw8N : Bw w w8 := HBW.out
    clear be b4 HLO HMK HLR cb8 hbx hwr
    gi_wp2_with fail
    rw [← hw6]
    clear hdd hw6 c5 z5
    exact leaves_marks 20 w8.heap.size D w6 HM6.out (fun w' hs => ⟨_, results_bool rfl _ _ _ _ rfl (hs.cells _ _ HR.out rfl), rfl, HBR.out.trans (hs.low.mono hw8N.size)⟩)
theorem each_main (l : List UInt8) (st : Int) (w : World) (ht : TbW w) (hw : Ev.Tbs tabs w) :
    Calls Tryd.prog 5 #[.string ⟨l.toArray⟩, .int .i64 st] w fun e w' => e = .returned (.bool true) ∧ Below w.heap.size w w' := callsIn_wide.1 (each_in l st w ht hw)
end Go.Proofs.YtffbdnlfknomnaaDoor.Wt
