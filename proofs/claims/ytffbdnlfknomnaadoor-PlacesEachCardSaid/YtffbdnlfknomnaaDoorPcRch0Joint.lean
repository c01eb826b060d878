/- What the iterators of package places share: what a body leaves as it was, the elements, and the contracts of endsLine and second. -/
import Derived.Test.YtffbdnlfknomnaaDoorGrAroJoint
import Derived.Test.YtffbdnlfknomnaaDoorUBeg
import Derived.Test.YtffbdnlfknomnaaDoorRngQJoint
namespace Go.Proofs.YtffbdnlfknomnaaDoor.Wt
open Go.RowKit Go.Shelf
attribute [local go_sem] Oper.semAt_some

/-- The types of what a body may write: numbers, scales, spots. -/
def kt (t : Nat) : Bool := !(t == 3 || t == 75 || t == 104)
/-- What a body leaves as it was: the tables, and all cells of other types. -/
structure Kt (X Y : World) : Prop where
  size : X.heap.size ≤ Y.heap.size
  low : ∀ k, k < 2 → Y.heap[k]? = X.heap[k]?
  cells : ∀ (k : Nat) (c : Array Value) (t : Nat) (fz : Nat × Nat), X.heap[k]? = some (.cells c t fz) → kt t = true → Y.heap[k]? = some (.cells c t fz)
theorem Kt_t {A B C : World} (h : Kt A B) (k : Kt B C) : Kt A C :=
  ⟨Nat.le_trans h.size k.size, fun i hi => (k.low i hi).trans (h.low i hi), fun i c t fz h1 h2 => k.cells i c t fz (h.cells i c t fz h1 h2) h2⟩
theorem Kt_b {w : World} (hw : 2 ≤ w.heap.size) (W : World) (l : Nat) (o o' : Obj) (hl : w.heap.size ≤ l) (h : W.heap[l]? = some o) (hc : o.isCells = false) (_ : o.isWalk = false) : Kt W (W.putObj l o') :=
  ⟨by simp, fun k hk => World.putObj_heap_other (by omega), fun k c t fz h1 _ => (World.putObj_heap_other (fun e => by subst e; rw [h] at h1; cases h1; cases hc)).trans h1⟩
theorem Kt.refl (X : World) : Kt X X := ⟨Nat.le_refl _, fun _ _ => rfl, fun _ _ _ _ h _ => h⟩
theorem Kt.below {X Y : World} (h : Below X.heap.size X Y) (h2 : 2 ≤ X.heap.size) : Kt X Y :=
  ⟨h.size, fun k hk => h.block k (by omega), fun k c t fz h1 _ => (h.block k (Array.getElem?_eq_some_iff.1 h1).1).trans h1⟩
theorem WaAt.kt {Bs : Nat} {l : List UInt8} {X Y : World} (h : WaAt Bs l X) (k : Kt X Y) : WaAt Bs l Y := h.keeps k.size fun i hi => by
  rcases hi with rfl | hi
  · have h1 := h.bs
    unfold Boxed at h1
    rw [h1]; exact k.cells _ _ _ _ h1 rfl
  · exact k.low i hi
theorem TbW.kt {X Y : World} (h : TbW X) (k : Kt X Y) : TbW Y := by
  have hl : ∀ i, i < 2 → Y.heap[i]? = X.heap[i]? := k.low
  exact ⟨⟨fun c hc => (World.cell?_of_block (w := X) (a := ⟨0, c, none⟩) (hl 0 (by decide))).trans (h.tabs.1 c hc), fun i hi => ⟨(World.cell?_of_block (w := X) (a := ⟨1, 2 * i, none⟩) (hl 1 (by decide))).trans (h.tabs.2 i hi).1, (World.cell?_of_block (w := X) (a := ⟨1, 2 * i + 1, none⟩) (hl 1 (by decide))).trans (h.tabs.2 i hi).2⟩⟩, Nat.le_trans h.two k.size⟩
/-- A place of a text. -/
structure Pn (l : List UInt8) where
  v : Nat
  lt : v < l.length
def encN {l : List UInt8} (x : Pn l) : Array Value := #[.int .i64 (x.v : Nat)]
theorem pn_all (l : List UInt8) : ∀ B : List Nat, (∀ p ∈ B, p < l.length) → ∃ L : List (Pn l), L.map Pn.v = B
  | [], _ => ⟨[], rfl⟩
  | p :: B, h => by
    obtain ⟨L, hL⟩ := pn_all l B fun q hq => h q (List.mem_cons_of_mem _ hq)
    exact ⟨⟨p, h p (List.mem_cons_self ..)⟩ :: L, by rw [List.map_cons, hL]⟩
/-- The contract of an iterator over the places of a text. -/
def PlSeq (g : Nat) (E : List UInt8 → List Nat) : Prop := ∀ (n Bs : Nat) (l : List UInt8) (L : List (Pn l)) (w : World), 3 ≤ n → L.map Pn.v = E l → WaAt Bs l w → l.length ≤ 1000000 →
  SeqO Fence.wide n Tryd.prog g #[.pointer (some ⟨Bs, 0, none⟩)] encN Kt (fun xs => xs = L) (fun pre => pre <+: L) L.length w
/-- The contract of the function that makes it. -/
def PlMk (m g : Nat) : Prop := ∀ (l : List UInt8) (w : World), Calls Tryd.prog m #[.string ⟨l.toArray⟩] w fun e w' => e = .returned (.func (.func g) #[] #[.pointer (some ⟨w.heap.size, 0, none⟩)]) ∧ w' = w.alloc (.cells #[.string ⟨l.toArray⟩] 9)
theorem units_mk : PlMk 34 58 := fun l w => by
  go_enter Tryd.func34, Tryd.ntmps34
  go_wp2
  go_ret
  exact ⟨rfl, rfl⟩
theorem runes_mk : PlMk 35 59 := fun l w => by
  go_enter Tryd.func35, Tryd.ntmps35
  go_wp2
  go_ret
  exact ⟨rfl, rfl⟩
theorem letters_mk : PlMk 36 60 := fun l w => by
  go_enter Tryd.func36, Tryd.ntmps36
  go_wp2
  go_ret
  exact ⟨rfl, rfl⟩
theorem ends_mk : PlMk 37 62 := fun l w => by
  go_enter Tryd.func37, Tryd.ntmps37
  go_wp2
  go_ret
  exact ⟨rfl, rfl⟩
theorem isN_ne (r : Nat) (h : isN r = false) : ((r : Int) == 10) = false ∧ ((r : Int) == 11) = false ∧ ((r : Int) == 12) = false ∧ ((r : Int) == 13) = false ∧ ((r : Int) == 133) = false ∧ ((r : Int) == 8232) = false ∧ ((r : Int) == 8233) = false := by
  unfold isN at h
  simp only [Bool.or_eq_false_iff, beq_eq_false_iff_ne] at h
  simp only [beq_eq_false_iff_ne]
  omega
theorem endsLine_any (r : Nat) (w : World) :
    Calls Tryd.prog 63 #[.int .i32 (r : Int)] w fun e w' => e = .returned (.bool (isN r)) ∧ w' = w := by
  cases h : isN r with
  | false =>
    obtain ⟨h1, h2, h3, h4, h5, h6, h7⟩ := isN_ne r h
    clear h
    go_enter Tryd.func63, Tryd.ntmps63
    go_wp2
    go_ret
    exact ⟨rfl, rfl⟩
  | true =>
    have hr : r = 10 ∨ r = 11 ∨ r = 12 ∨ r = 13 ∨ r = 133 ∨ r = 8232 ∨ r = 8233 := by
      unfold isN at h
      simp only [Bool.or_eq_true, beq_iff_eq] at h
      omega
    clear h
    rcases hr with rfl | rfl | rfl | rfl | rfl | rfl | rfl
    all_goals
      go_enter Tryd.func63, Tryd.ntmps63
      go_wp2
      go_ret
      exact ⟨rfl, rfl⟩
theorem second_any (l : List UInt8) (t : Nat) (w : World) (ht : t < l.length) (hl : l.length ≤ 1000000) :
    Calls Tryd.prog 64 #[.string ⟨l.toArray⟩, .int .i64 t] w fun e w' => e = .returned (.bool (sec l t)) ∧ w' = w := by
  have hsz : t < (⟨l.toArray⟩ : ByteArray).size := by show t < l.toArray.size; simpa using ht
  have hlti : (t : Int) < (l.length : Int) := by omega
  have hb := byt_eq l t hsz
  cases h1 : (byt l t == 10) with
  | false =>
    have hq : ((((⟨l.toArray⟩ : ByteArray)[t]'hsz).toNat : Int) == 10) = false := by rw [hb]; exact h1
    have HV := hid (show sec l t = false by unfold sec; rw [h1]; rfl)
    clear hb h1
    go_enter Tryd.func64, Tryd.ntmps64
    go_wp2
    go_ret
    exact ⟨by rw [HV.out]; rfl, rfl⟩
  | true =>
    have hq : ((((⟨l.toArray⟩ : ByteArray)[t]'hsz).toNat : Int) == 10) = true := by rw [hb]; exact h1
    by_cases h0 : 0 < t
    · obtain ⟨u, rfl⟩ : ∃ u, t = u + 1 := ⟨t - 1, by omega⟩
      have hszu : u < (⟨l.toArray⟩ : ByteArray).size := by omega
      have hbu := byt_eq l u hszu
      have hlu : (u : Int) < (l.length : Int) := by omega
      have HV := hid (show sec l (u + 1) = (byt l u == 13) by unfold sec; rw [h1]; simp)
      cases h2 : (byt l u == 13) with
      | false =>
        have hqu : ((((⟨l.toArray⟩ : ByteArray)[u]'hszu).toNat : Int) == 13) = false := by rw [hbu]; exact h2
        rw [h2] at HV
        clear hb h1 hbu h2
        go_enter Tryd.func64, Tryd.ntmps64
        go_wp2
        go_ret
        exact ⟨by rw [HV.out]; rfl, rfl⟩
      | true =>
        have hqu : ((((⟨l.toArray⟩ : ByteArray)[u]'hszu).toNat : Int) == 13) = true := by rw [hbu]; exact h2
        rw [h2] at HV
        clear hb h1 hbu h2
        go_enter Tryd.func64, Tryd.ntmps64
        go_wp2
        go_ret
        exact ⟨by rw [HV.out]; rfl, rfl⟩
    · obtain rfl : t = 0 := by omega
      have HV := hid (sec_0 l)
      clear hb h1 h0
      go_enter Tryd.func64, Tryd.ntmps64
      go_wp2
      go_ret
      exact ⟨by rw [HV.out]; rfl, rfl⟩
end Go.Proofs.YtffbdnlfknomnaaDoor.Wt
/- The iterators of runesOf and unitsOf (package places). -/
namespace Go.Proofs.YtffbdnlfknomnaaDoor.Wt
open Go.RowKit Go.Shelf
attribute [local go_sem] Oper.semAt_some

set_option maxHeartbeats 2000000 in
theorem runes_o : PlSeq 59 runesL := fun n Bs l L w hn hL hR hl lp J Jx W hbW hJ hJx hY h0 => by
  have HRW := hid (hR.below hbW)
  have hn1 : 1 ≤ n := by omega
  have hcW := HRW.out.bs.cell
  have HLL := hid hL
  have hsz : (⟨l.toArray⟩ : ByteArray).size = l.length := by show l.toArray.size = _; simp
  have HSZ := hid hsz
  clear hsz hR hbW hL
  refine callsIn_of_wp Tryd.func59 rfl trivial ?_ rfl
  simp only [Tryd.ntmps59, List.size_toArray, List.length_cons, List.length_nil, Nat.reduceAdd, Nat.reduceSub, Array.replicate_succ, Array.replicate_zero, List.push_toArray, List.append_toArray, List.nil_append, List.cons_append]
  gi_wp2
  have hJ0 : J [] (W.iter ⟨l.toArray⟩ 0) := hJ [] W _ none h0 (World.grownBy_alloc W _ none) (fun r e => by cases e)
  have hit0 : (W.iter ⟨l.toArray⟩ 0).heap[W.heap.size]? = some (.stringIter ⟨l.toArray⟩ 0) := World.iter_heap W _ 0
  have HW0 := hid (show WaAt Bs l (W.iter ⟨l.toArray⟩ 0) from HRW.out.below ((Below.refl _ _).alloc (Nat.le_refl _) _))
  clear hcW
  gi_loopw [3] (fun _ wr => ∃ (t : Nat) (pre rest : List (Pn l)), t ≤ l.length ∧ Hid (rest.map Pn.v = (rp l t).map (·.1)) ∧ Hid (L = pre ++ rest) ∧ Hid (wr.heap[W.heap.size]? = some (.stringIter ⟨l.toArray⟩ t)) ∧ Hid (J pre wr) ∧ Hid (WaAt Bs l wr)) (fun _ wr => l.length - wr.iterPos W.heap.size)
  case atStart => exact ⟨0, [], L, by omega, HLL, rfl, hit0, hJ0, HW0⟩
  case round =>
    obtain ⟨t, pre, rest, htl, HC, HP, HI, HJ, HR⟩ := hrel
    clear hJ0 hit0 HW0
    by_cases hlt : t < l.length
    · have hlti : (t : Int) < (l.length : Int) := by omega
      have hnx := wnext_at (P := Tryd.prog) wr W.heap.size ⟨l.toArray⟩ t 0 HI.out (by rw [HSZ.out]; exact hlt)
      rw [decode_place l t hlt] at hnx
      have hC2 := HC.out
      rw [rp_step l t hlt] at hC2
      have hne := drop_ne l t hlt
      have d1 := dec_ge _ hne
      have d2 := dec_le _ hne
      simp only [List.length_drop] at d2
      obtain ⟨nn, hnn⟩ : ∃ nn, nn = (dec (l.drop t)).2 := ⟨_, rfl⟩
      obtain ⟨rr, hrr⟩ : ∃ rr, rr = (dec (l.drop t)).1 := ⟨_, rfl⟩
      rw [← hnn] at hnx hC2 d1 d2
      rw [← hrr] at hnx hC2
      obtain ⟨w1, hw1⟩ : ∃ w1, w1 = wr.putObj W.heap.size (.stringIter ⟨l.toArray⟩ (t + nn)) := ⟨_, rfl⟩
      rw [← hw1] at hnx
      have hin : W.heap.size < wr.heap.size := (Array.getElem?_eq_some_iff.1 HI.out).1
      have HJ1 := hid (show J pre w1 by
        rw [hw1]
        exact hJ pre wr _ (some W.heap.size) HJ.out (grownBy_putObj' wr _ _) (fun r e => by cases e; exact ⟨Nat.le_refl _, _, HI.out, rfl⟩))
      have HI1 := hid (show w1.heap[W.heap.size]? = some (.stringIter ⟨l.toArray⟩ (t + nn)) by rw [hw1]; exact World.putObj_heap_same hin)
      have HR1 := hid (show WaAt Bs l w1 by
        rw [hw1]
        refine HR.out.keeps (by simp) fun k hk => World.putObj_heap_other ?_
        have := HRW.out.lt k hk
        omega)
      have HM := hid (show l.length - wr.iterPos W.heap.size = l.length - t by unfold World.iterPos; rw [HI.out])
      have HC2 := hid hC2
      clear hC2 hne hnn hrr hw1 hin HC HI HJ HR
      have HC3 := hid (show rest.map Pn.v = t :: (rp l (t + nn)).map (·.1) from HC2.out)
      obtain ⟨x, R, rfl⟩ : ∃ x R, rest = x :: R := by
        cases rest with
        | nil => have h1 := HC3.out; cases h1
        | cons x R => exact ⟨x, R, rfl⟩
      have Hx := hid (List.cons.inj (HC3.out)).1
      have HR := hid (List.cons.inj (HC3.out)).2
      have HP2 := hid (show L = (pre ++ [x]) ++ R by rw [HP.out, List.append_assoc]; rfl)
      obtain ⟨fn, tmps, assign, body, hy, hRR⟩ := hY pre x w1 HJ1.out (by rw [HP2.out]; simp)
      dsimp only [encN] at hy
      rw [Hx.out] at hy
      clear hY HC2 HC3
      gi_wp2
      refine hRR.mono ?_
      rintro e W3 ⟨hkf, (⟨rfl, hJ3, hk3⟩ | ⟨rfl, hJx3⟩)⟩
      · have HI3 := hid (hkf.same _ _ (Nat.le_refl _) HI1.out rfl)
        have HR3 := hid (HR1.out.kt hk3)
        have HJ3 := hid hJ3
        clear hJ3 hk3 hkf
        gi_wp2
        go_roundw
        case rel => exact ⟨t + nn, pre ++ [x], R, by omega, HR, HP2, HI3, HJ3, HR3⟩
        case measure =>
          rw [HM.out]
          unfold World.iterPos
          rw [HI3.out]
          simp only []
          omega
      · have HJX := hid hJx3
        clear hJx3
        gi_wp2
        refine bodyPost_ret (results_none rfl _ _ _) rfl ?_
        exact ⟨⟨_, rfl⟩, .inr ⟨pre ++ [x], ⟨R, by rw [HP2.out]⟩, HJX.out⟩⟩
    · have hnx := wnext_stop (P := Tryd.prog) wr W.heap.size ⟨l.toArray⟩ t 0 HI.out (by rw [HSZ.out]; exact hlt)
      have HF := hid (show L = pre by
        have h := HC.out
        rw [rp_end l t hlt] at h
        rw [HP.out, List.map_eq_nil_iff.1 h, List.append_nil])
      gi_wp2
      go_end0
      exact ⟨⟨_, rfl⟩, .inl ⟨_, rfl, by rw [HF.out]; exact HJ.out⟩⟩
set_option maxHeartbeats 2000000 in
theorem units_o : PlSeq 58 unitsL := fun n Bs l L w hn hL hR hl lp J Jx W hbW hJ hJx hY h0 => by
  have HRW := hid (hR.below hbW)
  have hn1 : 1 ≤ n := by omega
  have hcW := HRW.out.bs.cell
  have HLL := hid hL
  have hsz : (⟨l.toArray⟩ : ByteArray).size = l.length := by show l.toArray.size = _; simp
  have HSZ := hid hsz
  clear hsz hR hbW hL
  refine callsIn_of_wp Tryd.func58 rfl trivial ?_ rfl
  simp only [Tryd.ntmps58, List.size_toArray, List.length_cons, List.length_nil, Nat.reduceAdd, Nat.reduceSub, Array.replicate_succ, Array.replicate_zero, List.push_toArray, List.append_toArray, List.nil_append, List.cons_append]
  gi_wp2
  have hJ0 : J [] (W.iter ⟨l.toArray⟩ 0) := hJ [] W _ none h0 (World.grownBy_alloc W _ none) (fun r e => by cases e)
  have hit0 : (W.iter ⟨l.toArray⟩ 0).heap[W.heap.size]? = some (.stringIter ⟨l.toArray⟩ 0) := World.iter_heap W _ 0
  have HW0 := hid (show WaAt Bs l (W.iter ⟨l.toArray⟩ 0) from HRW.out.below ((Below.refl _ _).alloc (Nat.le_refl _) _))
  clear hcW
  gi_loopw [3, 4] (fun _ _ wr => ∃ (t : Nat) (pre rest : List (Pn l)), t ≤ l.length ∧ Hid (rest.map Pn.v = (rp l t).flatMap un) ∧ Hid (L = pre ++ rest) ∧ Hid (wr.heap[W.heap.size]? = some (.stringIter ⟨l.toArray⟩ t)) ∧ Hid (J pre wr) ∧ Hid (WaAt Bs l wr)) (fun _ _ wr => l.length - wr.iterPos W.heap.size)
  case atStart => exact ⟨0, [], L, by omega, HLL, rfl, hit0, hJ0, HW0⟩
  case round =>
    obtain ⟨t, pre, rest, htl, HC, HP, HI, HJ, HR⟩ := hrel
    clear hJ0 hit0 HW0
    by_cases hlt : t < l.length
    · have hlti : (t : Int) < (l.length : Int) := by omega
      have hnx := wnext_at (P := Tryd.prog) wr W.heap.size ⟨l.toArray⟩ t 0 HI.out (by rw [HSZ.out]; exact hlt)
      rw [decode_place l t hlt] at hnx
      have hC2 := HC.out
      rw [rp_step l t hlt] at hC2
      have hne := drop_ne l t hlt
      have d1 := dec_ge _ hne
      have d2 := dec_le _ hne
      simp only [List.length_drop] at d2
      obtain ⟨nn, hnn⟩ : ∃ nn, nn = (dec (l.drop t)).2 := ⟨_, rfl⟩
      obtain ⟨rr, hrr⟩ : ∃ rr, rr = (dec (l.drop t)).1 := ⟨_, rfl⟩
      rw [← hnn] at hnx hC2 d1 d2
      rw [← hrr] at hnx hC2
      obtain ⟨w1, hw1⟩ : ∃ w1, w1 = wr.putObj W.heap.size (.stringIter ⟨l.toArray⟩ (t + nn)) := ⟨_, rfl⟩
      rw [← hw1] at hnx
      have hin : W.heap.size < wr.heap.size := (Array.getElem?_eq_some_iff.1 HI.out).1
      have HJ1 := hid (show J pre w1 by
        rw [hw1]
        exact hJ pre wr _ (some W.heap.size) HJ.out (grownBy_putObj' wr _ _) (fun r e => by cases e; exact ⟨Nat.le_refl _, _, HI.out, rfl⟩))
      have HI1 := hid (show w1.heap[W.heap.size]? = some (.stringIter ⟨l.toArray⟩ (t + nn)) by rw [hw1]; exact World.putObj_heap_same hin)
      have HR1 := hid (show WaAt Bs l w1 by
        rw [hw1]
        refine HR.out.keeps (by simp) fun k hk => World.putObj_heap_other ?_
        have := HRW.out.lt k hk
        omega)
      have HM := hid (show l.length - wr.iterPos W.heap.size = l.length - t by unfold World.iterPos; rw [HI.out])
      have HC2 := hid hC2
      clear hC2 hne hnn hrr hw1 hin HC HI HJ HR
      by_cases hwd : 65535 < rr
      · have hwi : (65535 : Int) < (rr : Int) := by omega
        have HC3 := hid (show rest.map Pn.v = t :: (t + 1) :: (rp l (t + nn)).flatMap un by rw [HC2.out, List.flatMap_cons]; unfold un; rw [if_pos hwd]; rfl)
        obtain ⟨x, R, rfl⟩ : ∃ x R, rest = x :: R := by
          cases rest with
          | nil => have h1 := HC3.out; cases h1
          | cons x R => exact ⟨x, R, rfl⟩
        have Hx := hid (List.cons.inj (HC3.out)).1
        have HR := hid (List.cons.inj (HC3.out)).2
        obtain ⟨z, S, rfl⟩ : ∃ z S, R = z :: S := by
          cases R with
          | nil => have h1 := HR.out; cases h1
          | cons x R => exact ⟨x, R, rfl⟩
        have Hz := hid (List.cons.inj (HR.out)).1
        have HS := hid (List.cons.inj (HR.out)).2
        have HP2 := hid (show L = (pre ++ [x]) ++ z :: S by rw [HP.out, List.append_assoc]; rfl)
        have HP3 := hid (show L = (pre ++ [x] ++ [z]) ++ S by rw [HP2.out, List.append_assoc (pre ++ [x])]; rfl)
        obtain ⟨fn, tmps, assign, body, hy, hRR⟩ := hY pre x w1 HJ1.out (by rw [HP2.out]; simp)
        dsimp only [encN] at hy
        rw [Hx.out] at hy
        clear HC2 HC3 hwd
        gi_wp2
        refine hRR.mono ?_
        rintro e W3 ⟨hkf, (⟨rfl, hJ3, hk3⟩ | ⟨rfl, hJx3⟩)⟩
        · have HI3 := hid (hkf.same _ _ (Nat.le_refl _) HI1.out rfl)
          have HR3 := hid (HR1.out.kt hk3)
          have HJ3 := hid hJ3
          clear hJ3 hk3 hkf hy hRR hnx
          obtain ⟨fn2, tmps2, assign2, body2, hy2, hRR2⟩ := hY (pre ++ [x]) z W3 HJ3.out (by rw [HP3.out]; simp)
          dsimp only [encN] at hy2
          rw [Hz.out] at hy2
          simp only [Int.natCast_add, Int.cast_ofNat_Int] at hy2
          clear hY
          gi_wp2
          refine hRR2.mono ?_
          rintro e W4 ⟨hkf, (⟨rfl, hJ4, hk4⟩ | ⟨rfl, hJx4⟩)⟩
          · have HI4 := hid (hkf.same _ _ (Nat.le_refl _) HI3.out rfl)
            have HR4 := hid (HR3.out.kt hk4)
            have HJ4 := hid hJ4
            clear hJ4 hk4 hkf
            gi_wp2
            go_roundw
            case rel => exact ⟨t + nn, pre ++ [x] ++ [z], S, by omega, HS, HP3, HI4, HJ4, HR4⟩
            case measure =>
              rw [HM.out]
              unfold World.iterPos
              rw [HI4.out]
              simp only []
              omega
          · have HJX := hid hJx4
            clear hJx4
            gi_wp2
            refine bodyPost_ret (results_none rfl _ _ _) rfl ?_
            exact ⟨⟨_, rfl⟩, .inr ⟨pre ++ [x] ++ [z], ⟨S, by rw [HP3.out]⟩, HJX.out⟩⟩
        · have HJX := hid hJx3
          clear hJx3
          gi_wp2_with (refine wpListIn_skip (by rfl) (by rfl) ?_)
          refine bodyPost_ret (results_none rfl _ _ _) rfl ?_
          exact ⟨⟨_, rfl⟩, .inr ⟨pre ++ [x], ⟨z :: S, by rw [HP2.out]⟩, HJX.out⟩⟩
      · have hwi : ¬ (65535 : Int) < (rr : Int) := by omega
        have HC3 := hid (show rest.map Pn.v = t :: (rp l (t + nn)).flatMap un by rw [HC2.out, List.flatMap_cons]; unfold un; rw [if_neg hwd]; rfl)
        obtain ⟨x, R, rfl⟩ : ∃ x R, rest = x :: R := by
          cases rest with
          | nil => have h1 := HC3.out; cases h1
          | cons x R => exact ⟨x, R, rfl⟩
        have Hx := hid (List.cons.inj (HC3.out)).1
        have HR := hid (List.cons.inj (HC3.out)).2
        have HP2 := hid (show L = (pre ++ [x]) ++ R by rw [HP.out, List.append_assoc]; rfl)
        obtain ⟨fn, tmps, assign, body, hy, hRR⟩ := hY pre x w1 HJ1.out (by rw [HP2.out]; simp)
        dsimp only [encN] at hy
        rw [Hx.out] at hy
        clear hY HC2 HC3 hwd
        gi_wp2
        refine hRR.mono ?_
        rintro e W3 ⟨hkf, (⟨rfl, hJ3, hk3⟩ | ⟨rfl, hJx3⟩)⟩
        · have HI3 := hid (hkf.same _ _ (Nat.le_refl _) HI1.out rfl)
          have HR3 := hid (HR1.out.kt hk3)
          have HJ3 := hid hJ3
          clear hJ3 hk3 hkf
          gi_wp2_with fail
          refine ⟨fun _ h => (by cases h), ?_⟩
          gi_wp2
          go_roundw
          case rel => exact ⟨t + nn, pre ++ [x], R, by omega, HR, HP2, HI3, HJ3, HR3⟩
          case measure =>
            rw [HM.out]
            unfold World.iterPos
            rw [HI3.out]
            simp only []
            omega
        · have HJX := hid hJx3
          clear hJx3
          gi_wp2_with (refine wpListIn_skip (by rfl) (by rfl) ?_)
          refine bodyPost_ret (results_none rfl _ _ _) rfl ?_
          exact ⟨⟨_, rfl⟩, .inr ⟨pre ++ [x], ⟨R, by rw [HP2.out]⟩, HJX.out⟩⟩
    · have hnx := wnext_stop (P := Tryd.prog) wr W.heap.size ⟨l.toArray⟩ t 0 HI.out (by rw [HSZ.out]; exact hlt)
      have HF := hid (show L = pre by
        have h := HC.out
        rw [rp_end l t hlt] at h
        rw [HP.out, List.map_eq_nil_iff.1 h, List.append_nil])
      gi_wp2
      go_end0
      exact ⟨⟨_, rfl⟩, .inl ⟨_, rfl, by rw [HF.out]; exact HJ.out⟩⟩
end Go.Proofs.YtffbdnlfknomnaaDoor.Wt
/- The iterator of endsOf (package places). -/
namespace Go.Proofs.YtffbdnlfknomnaaDoor.Wt
open Go.RowKit Go.Shelf
attribute [local go_sem] Oper.semAt_some

set_option maxHeartbeats 2000000 in
theorem ends_o : PlSeq 62 endsL := fun n Bs l L w hn hL hR hl lp J Jx W hbW hJ hJx hY h0 => by
  have HRW := hid (hR.below hbW)
  have hn1 : 1 ≤ n := by omega
  have hcW := HRW.out.bs.cell
  have HLL := hid hL
  have hsz : (⟨l.toArray⟩ : ByteArray).size = l.length := by show l.toArray.size = _; simp
  have HSZ := hid hsz
  clear hsz hR hbW hL
  refine callsIn_of_wp Tryd.func62 rfl trivial ?_ rfl
  simp only [Tryd.ntmps62, List.size_toArray, List.length_cons, List.length_nil, Nat.reduceAdd, Nat.reduceSub, Array.replicate_succ, Array.replicate_zero, List.push_toArray, List.append_toArray, List.nil_append, List.cons_append]
  gi_wp2
  have hJ0 : J [] (W.iter ⟨l.toArray⟩ 0) := hJ [] W _ none h0 (World.grownBy_alloc W _ none) (fun r e => by cases e)
  have hit0 : (W.iter ⟨l.toArray⟩ 0).heap[W.heap.size]? = some (.stringIter ⟨l.toArray⟩ 0) := World.iter_heap W _ 0
  have HW0 := hid (show WaAt Bs l (W.iter ⟨l.toArray⟩ 0) from HRW.out.below ((Below.refl _ _).alloc (Nat.le_refl _) _))
  clear hcW
  gi_loopw [3, 4] (fun _ _ wr => ∃ (t : Nat) (pre rest : List (Pn l)), t ≤ l.length ∧ Hid (rest.map Pn.v = ((rp l t).filter (endP l)).map (·.1)) ∧ Hid (L = pre ++ rest) ∧ Hid (wr.heap[W.heap.size]? = some (.stringIter ⟨l.toArray⟩ t)) ∧ Hid (J pre wr) ∧ Hid (WaAt Bs l wr)) (fun _ _ wr => l.length - wr.iterPos W.heap.size)
  case atStart => exact ⟨0, [], L, by omega, HLL, rfl, hit0, hJ0, HW0⟩
  case round =>
    obtain ⟨t, pre, rest, htl, HC, HP, HI, HJ, HR⟩ := hrel
    clear hJ0 hit0 HW0
    by_cases hlt : t < l.length
    · have hlti : (t : Int) < (l.length : Int) := by omega
      have hnx := wnext_at (P := Tryd.prog) wr W.heap.size ⟨l.toArray⟩ t 0 HI.out (by rw [HSZ.out]; exact hlt)
      rw [decode_place l t hlt] at hnx
      have hC2 := HC.out
      rw [rp_step l t hlt] at hC2
      have hne := drop_ne l t hlt
      have d1 := dec_ge _ hne
      have d2 := dec_le _ hne
      simp only [List.length_drop] at d2
      obtain ⟨nn, hnn⟩ : ∃ nn, nn = (dec (l.drop t)).2 := ⟨_, rfl⟩
      obtain ⟨rr, hrr⟩ : ∃ rr, rr = (dec (l.drop t)).1 := ⟨_, rfl⟩
      rw [← hnn] at hnx hC2 d1 d2
      rw [← hrr] at hnx hC2
      obtain ⟨w1, hw1⟩ : ∃ w1, w1 = wr.putObj W.heap.size (.stringIter ⟨l.toArray⟩ (t + nn)) := ⟨_, rfl⟩
      rw [← hw1] at hnx
      have hin : W.heap.size < wr.heap.size := (Array.getElem?_eq_some_iff.1 HI.out).1
      have HJ1 := hid (show J pre w1 by
        rw [hw1]
        exact hJ pre wr _ (some W.heap.size) HJ.out (grownBy_putObj' wr _ _) (fun r e => by cases e; exact ⟨Nat.le_refl _, _, HI.out, rfl⟩))
      have HI1 := hid (show w1.heap[W.heap.size]? = some (.stringIter ⟨l.toArray⟩ (t + nn)) by rw [hw1]; exact World.putObj_heap_same hin)
      have HR1 := hid (show WaAt Bs l w1 by
        rw [hw1]
        refine HR.out.keeps (by simp) fun k hk => World.putObj_heap_other ?_
        have := HRW.out.lt k hk
        omega)
      have HM := hid (show l.length - wr.iterPos W.heap.size = l.length - t by unfold World.iterPos; rw [HI.out])
      have HC2 := hid hC2
      clear hC2 hne hnn hrr hw1 hin HC HI HJ HR
      have HJ2 := HJ1
      gi_wp2_with fail
      refine ⟨trivial, (callsIn_wide.2 (endsLine_any rr w1)).mono ?_⟩
      rintro e w2 ⟨rfl, hw2⟩
      obtain rfl := hw2.symm
      clear hw2
      have hc1 := HR1.out.bs.cell
      cases hN : isN rr with
      | false =>
        have HRR := hid (show rest.map Pn.v = ((rp l (t + nn)).filter (endP l)).map (·.1) by
          rw [HC2.out, List.filter_cons_of_neg (by rw [show endP l (t, rr) = false by unfold endP; simp only []; rw [hN]; rfl]; simp)])
        clear hN hY
        gi_wp2_with fail
        refine ⟨trivial, ?_⟩
        gi_wp2_with fail
        refine ⟨fun _ h => (by cases h), ?_⟩
        gi_wp2
        go_roundw
        case rel => exact ⟨t + nn, pre, rest, by omega, HRR, HP, HI1, HJ1, HR1⟩
        case measure =>
          rw [HM.out]
          unfold World.iterPos
          rw [HI1.out]
          simp only []
          omega
      | true =>
        gi_wp2_with fail
        refine ⟨trivial, (callsIn_wide.2 (second_any l t w1 hlt hl)).mono ?_⟩
        rintro e w2 ⟨rfl, hw2⟩
        obtain rfl := hw2.symm
        clear hw2
        cases hS : sec l t with
        | true =>
          have HRR := hid (show rest.map Pn.v = ((rp l (t + nn)).filter (endP l)).map (·.1) by
            rw [HC2.out, List.filter_cons_of_neg (by rw [show endP l (t, rr) = false by unfold endP; simp only []; rw [hN, hS]; rfl]; simp)])
          clear hN hY hS
          gi_wp2_with fail
          refine ⟨fun _ h => (by cases h), ?_⟩
          gi_wp2
          go_roundw
          case rel => exact ⟨t + nn, pre, rest, by omega, HRR, HP, HI1, HJ1, HR1⟩
          case measure =>
            rw [HM.out]
            unfold World.iterPos
            rw [HI1.out]
            simp only []
            omega
        | false =>
          have HC3 := hid (show rest.map Pn.v = t :: ((rp l (t + nn)).filter (endP l)).map (·.1) by
            rw [HC2.out, List.filter_cons_of_pos (show endP l (t, rr) = true by unfold endP; simp only []; rw [hN, hS]; rfl)]; rfl)
          obtain ⟨x, R, rfl⟩ : ∃ x R, rest = x :: R := by
            cases rest with
            | nil => have h1 := HC3.out; cases h1
            | cons x R => exact ⟨x, R, rfl⟩
          have Hx := hid (List.cons.inj (HC3.out)).1
          have HR := hid (List.cons.inj (HC3.out)).2
          have HP2 := hid (show L = (pre ++ [x]) ++ R by rw [HP.out, List.append_assoc]; rfl)
          obtain ⟨fn, tmps, assign, body, hy, hRR⟩ := hY pre x w1 HJ1.out (by rw [HP2.out]; simp)
          dsimp only [encN] at hy
          rw [Hx.out] at hy
          clear hY HC2 HC3 hS hN
          gi_wp2
          refine hRR.mono ?_
          rintro e W3 ⟨hkf, (⟨rfl, hJ3, hk3⟩ | ⟨rfl, hJx3⟩)⟩
          · have HI3 := hid (hkf.same _ _ (Nat.le_refl _) HI1.out rfl)
            have HR3 := hid (HR1.out.kt hk3)
            have HJ3 := hid hJ3
            clear hJ3 hk3 hkf
            gi_wp2
            go_roundw
            case rel => exact ⟨t + nn, pre ++ [x], R, by omega, HR, HP2, HI3, HJ3, HR3⟩
            case measure =>
              rw [HM.out]
              unfold World.iterPos
              rw [HI3.out]
              simp only []
              omega
          · have HJX := hid hJx3
            clear hJx3
            gi_wp2
            refine bodyPost_ret (results_none rfl _ _ _) rfl ?_
            exact ⟨⟨_, rfl⟩, .inr ⟨pre ++ [x], ⟨R, by rw [HP2.out]⟩, HJX.out⟩⟩
    · have hnx := wnext_stop (P := Tryd.prog) wr W.heap.size ⟨l.toArray⟩ t 0 HI.out (by rw [HSZ.out]; exact hlt)
      have HF := hid (show L = pre by
        have h := HC.out
        rw [rp_end l t hlt] at h
        rw [HP.out, List.map_eq_nil_iff.1 h, List.append_nil])
      gi_wp2
      go_end0
      exact ⟨⟨_, rfl⟩, .inl ⟨_, rfl, by rw [HF.out]; exact HJ.out⟩⟩
end Go.Proofs.YtffbdnlfknomnaaDoor.Wt
/- The iterator of Each (package grapheme) as one that others may range over, and the iterator of lettersOf (package places), which does. -/
namespace Go.Proofs.YtffbdnlfknomnaaDoor.Wt
open Go.RowKit Go.Shelf
attribute [local go_sem] Oper.semAt_some

set_option maxHeartbeats 2000000 in
theorem geach_o (n : Nat) (hn : 1 ≤ n) (Bs : Nat) (l : List UInt8) (L : List (Pl l)) (hL : L.map Pl.v = gpF l 0) (w : World) (hR : WaAt Bs l w) (hl : l.length ≤ 1000000000) :
    SeqO Fence.wide n Tryd.prog 83 #[.pointer (some ⟨Bs, 0, none⟩)] encP Kt (fun xs => xs = L) (fun pre => pre <+: L) L.length w := fun lp J Jx W hbW hJ hJx hY h0 => by
  have HRW := hid (hR.below hbW)
  have hcW := HRW.out.bs.cell
  have HLL := hid hL
  clear hR hbW hL
  refine callsIn_of_wp Tryd.func83 rfl trivial ?_ rfl
  simp only [Tryd.ntmps83, List.size_toArray, List.length_cons, List.length_nil, Nat.reduceAdd, Nat.reduceSub, Array.replicate_succ, Array.replicate_zero, List.push_toArray, List.append_toArray, List.nil_append, List.cons_append]
  gi_wp2
  gi_loopw [3] (fun v wr => ∃ (p : Nat) (pre rest : List (Pl l)), v = .int .i64 p ∧ p ≤ l.length ∧ Hid (rest.map Pl.v = gpF l p) ∧ Hid (L = pre ++ rest) ∧ Hid (J pre wr) ∧ Hid (WaAt Bs l wr)) (fun v _ => l.length - (intOf v).toNat)
  case atStart => exact ⟨0, [], L, rfl, Nat.zero_le _, HLL, rfl, h0, HRW⟩
  case round =>
    obtain ⟨p, pre, rest, rfl, hp, HC, HP, HJ, HR⟩ := hrel
    clear hcW
    have hc := HR.out.bs.cell
    by_cases hlt : p < l.length
    · have hlti : (p : Int) < (l.length : Int) := by omega
      obtain ⟨hb1, hb2⟩ := gst l p hlt
      have HDN := hid (drop_ne l p hlt)
      have HDL := hid (show (l.drop p).length ≤ 1000000000 by rw [List.length_drop]; omega)
      obtain ⟨x, R, rfl⟩ : ∃ x R, rest = x :: R := by
        cases rest with
        | nil => have h1 := HC.out; rw [gp_step l p hlt] at h1; cases h1
        | cons x R => exact ⟨x, R, rfl⟩
      have hx := HC.out
      rw [gp_step l p hlt, List.map_cons] at hx
      have HX := hid (List.cons.inj hx).1
      have HRR := hid (List.cons.inj hx).2
      clear hx HC
      gi_wp2_with fail
      rw [ext_drop]
      refine ⟨trivial, (callsIn_wide.2 (gfirst_any (l.drop p) wr HR.out.tb HDL.out HDN.out)).mono ?_⟩
      rintro e w1 ⟨rfl, be1⟩
      have HJ1 := hid (hJ pre wr w1 none HJ.out (wgrown be1) (fun r e => by cases e))
      have HR1 := hid (HR.out.below be1)
      obtain ⟨q, hq⟩ : ∃ q, q = gfs (l.drop p) := ⟨_, rfl⟩
      rw [← hq] at hb1 hb2 HX HRR
      rw [← hq]
      clear be1 hq HJ HR hc
      have HP2 := hid (show L = (pre ++ [x]) ++ R by rw [HP.out, List.append_assoc]; rfl)
      obtain ⟨fn, tmps, assign, body, hy, hRR⟩ := hY pre x w1 HJ1.out (by rw [HP2.out]; simp)
      dsimp only [encP] at hy
      rw [HX.out] at hy
      simp only [Int.natCast_add] at hy
      clear hY
      gi_wp2
      refine hRR.mono ?_
      rintro e W3 ⟨_, (⟨rfl, hJ3, hk3⟩ | ⟨rfl, hJx3⟩)⟩
      · have HJ3 := hid hJ3
        have HR3 := hid (HR1.out.kt hk3)
        clear hJ3 hk3
        gi_wp2
        go_roundw
        case rel => exact ⟨p + q, pre ++ [x], R, by rw [Int.natCast_add], hb2, HRR, HP2, HJ3, HR3⟩
        case measure => simp [intOf]; omega
      · have HJX := hid hJx3
        clear hJx3
        gi_wp2
        refine bodyPost_ret (results_none rfl _ _ _) rfl ?_
        exact ⟨⟨_, rfl⟩, .inr ⟨pre ++ [x], ⟨R, by rw [HP2.out]⟩, HJX.out⟩⟩
    · have hlti : ¬ (p : Int) < (l.length : Int) := by omega
      have HE := hid (show L = pre by
        cases rest with
        | nil => rw [HP.out, List.append_nil]
        | cons x R => have h1 := HC.out; rw [gp_end l p hlt] at h1; cases h1)
      gi_wp2
      go_end0
      exact ⟨⟨_, rfl⟩, .inl (by rw [HE.out]; exact HJ.out)⟩
/-- At the wide fence a round's depth has no part. -/
theorem round_wide {m m' lp l : Nat} {f : FuncId} {tmps : Array Value} {assign body : Code} {w : World} {R : Ending → World → Prop} (h : RoundIn Fence.wide m Tryd.prog l f tmps assign body w R) : RoundIn (Fence.wide.inRound lp) m' Tryd.prog l f tmps assign body w R :=
  ⟨trivial, fun c cs _ => h.2 c cs (room_wide _)⟩
/-- The place where a letter begins. -/
def toPn {l : List UInt8} (x : Pl l) : Pn l := ⟨x.v.1, by have := x.lt; have := x.le; omega⟩
theorem pn_inj {l : List UInt8} : ∀ {A B : List (Pn l)}, A.map Pn.v = B.map Pn.v → A = B
  | [], [], _ => rfl
  | [], _ :: _, h => by cases h
  | _ :: _, [], h => by cases h
  | ⟨a, _⟩ :: A, ⟨b, _⟩ :: B, h => by
    obtain ⟨h1, h2⟩ := List.cons.inj h
    simp only [] at h1
    subst h1
    rw [pn_inj h2]
set_option maxHeartbeats 2000000 in
theorem letters_o : PlSeq 60 lettersL := fun n Bs l L w hn hL hR hl lp J Jx W hbW hJ hJx hY h0 => by
  have HRW := hid (hR.below hbW)
  have hcW := (HRW.out.bs.alloc (.cells #[.func (.yield lp) #[] #[]] 102)).cell
  have h2 := HRW.out.tb.two
  have hn1 : 1 ≤ n := by omega
  obtain ⟨M, hM, _⟩ := gp_all l _ 0 (Nat.le_refl _)
  have HM := hid hM
  have HL := hid (show L = M.map toPn from pn_inj (by
    rw [hL]
    unfold lettersL
    rw [← hM, List.map_map, List.map_map]
    rfl))
  clear hR hbW hL hM
  refine callsIn_of_wp_marks Tryd.func60 rfl trivial ?_ rfl
  simp only [Tryd.ntmps60, List.size_toArray, List.length_cons, List.length_nil, Nat.reduceAdd, Nat.reduceSub, Array.replicate_succ, Array.replicate_zero, List.push_toArray, List.append_toArray, List.nil_append, List.cons_append]
  gi_wp2_with fail
  refine ⟨trivial, (callsIn_wide.2 (geach_any l _)).mono ?_⟩
  rintro e w' ⟨rfl, rfl⟩
  have b2 := (Boxed.new W 102 (.func (.yield lp) #[] #[])).alloc (.cells #[.string ⟨l.toArray⟩] 9)
  have b3 := Boxed.new (W.alloc (.cells #[.func (.yield lp) #[] #[]] 102)) 9 (.string ⟨l.toArray⟩)
  have hB : Below W.heap.size W ((W.alloc (.cells #[.func (.yield lp) #[] #[]] 102)).alloc (.cells #[.string ⟨l.toArray⟩] 9)) := ((Below.refl _ _).alloc (Nat.le_refl _) _).alloc (by simp) _
  have hs : ((W.alloc (.cells #[.func (.yield lp) #[] #[]] 102)).alloc (.cells #[.string ⟨l.toArray⟩] 9)).heap.size = W.heap.size + 2 := by simp
  have hJ0 : J [] ((W.alloc (.cells #[.func (.yield lp) #[] #[]] 102)).alloc (.cells #[.string ⟨l.toArray⟩] 9)) := hJ [] W _ none h0 (wgrown hB) (fun r e => by cases e)
  rw [World.size_alloc] at b3 ⊢
  obtain ⟨w3, hw3⟩ : ∃ w3, w3 = (W.alloc (.cells #[.func (.yield lp) #[] #[]] 102)).alloc (.cells #[.string ⟨l.toArray⟩] 9) := ⟨_, rfl⟩
  rw [← hw3] at b2 b3 hB hs hJ0 ⊢
  clear hw3
  have HE := hid (show WaAt (W.heap.size + 1) l w3 from ⟨b3, HRW.out.tb.below hB⟩)
  gi_wp2
  refine rangeO rfl hn1 rfl trivial (enters_of Tryd.func83 (by kernel_rfl) rfl) (geach_o (n - 1) (by omega) (W.heap.size + 1) l M HM.out w3 HE.out (by omega)) Kt_t (Kt_b (by omega)) (Below.refl _ _) (fun _ => rfl)
    (fun pre V => (J (pre.map toPn) V ∧ WaAt (W.heap.size + 1) l V) ∧ Boxed V W.heap.size 102 (.func (.yield lp) #[] #[]))
    (fun c pre V => c = .ret ∧ Jx (pre.map toPn) V)
    (OwnFrom.and (OwnFrom.and (fun s A C row h hg hr => own_le hJ (by omega) (s.map toPn) A C row h hg hr) (waAt_from _ _ l (by omega))) (Own.from (boxed_own _ _ _) _))
    (fun c s A C row h hg hr => ⟨h.1, own_le hJx (by omega) (s.map toPn) A C row h.2 hg hr⟩)
    ⟨⟨hJ0, HE.out⟩, b2⟩
    (fun x a' _ => a' = { tmps := #[.func (.yield lp) #[] #[], .pointer (some ⟨Bs, 0, none⟩), .pointer (some ⟨W.heap.size, 0, none⟩), .int .i64 (x.v.1 : Nat), .string ⟨l.toArray⟩, .func (.func 83) #[] #[.pointer (some ⟨W.heap.size + 1, 0, none⟩)], .int .i64 (x.v.1 : Nat), .int .i64 (x.v.2 : Nat), undef, undef, undef, undef], defers := [] })
    (fun _ _ _ _ _ _ h _ _ => h) ?assign ?body ?done ?stop
  case assign =>
    intro lp2 pre x V K hI hK
    dsimp only [encP]
    gi_wp2
    exact hK _ _ (KeepsFrom.refl _ _) (Kt.refl _) hI rfl
  case body =>
    rintro lp2 pre x a' V hlp _ ⟨⟨hj, hwa⟩, hb⟩ rfl hlt
    have hc := hb.cell
    obtain ⟨fn, tmps, assign, body, hy, hRR⟩ := hY (pre.map toPn) (toPn x) V hj (by rw [HL.out, List.length_map, List.length_map]; exact hlt)
    dsimp only [encN, toPn] at hy
    have HWA := hid hwa
    have HBX := hid hb
    clear hY hwa hb hj
    gi_wp2
    refine ⟨fun _ => by omega, (round_wide hRR).mono ?_⟩
    rintro e V3 ⟨hkf, (⟨rfl, hJ3, hk3⟩ | ⟨rfl, hJx3⟩)⟩
    · have HQ := hid (show KeepsFrom w3.heap.size V V3 ∧ Kt V V3 ∧ (J ((pre ++ [x]).map toPn) V3 ∧ WaAt (W.heap.size + 1) l V3) ∧ Boxed V3 W.heap.size 102 (.func (.yield lp) #[] #[]) from
        ⟨keeps_le hkf (by omega), hk3, ⟨by rw [List.map_append]; exact hJ3, HWA.out.kt hk3⟩, hk3.cells _ _ _ _ HBX.out rfl⟩)
      clear hkf hJ3 hk3
      gi_wp2
      exact HQ.out
    · have HQ := hid (show KeepsFrom w3.heap.size V V3 ∧ Jx ((pre ++ [x]).map toPn) V3 from ⟨keeps_le hkf (by omega), by rw [List.map_append]; exact hJx3⟩)
      clear hkf hJx3
      gi_wp2
      exact ⟨HQ.out.1, rfl, HQ.out.2⟩
  case done =>
    rintro D xs V hD rfl ⟨⟨hj, _⟩, _⟩ hK
    gi_wp2
    refine ⟨by simp, .inl ⟨_, _, rfl, run_takeDeferred hK, ?_⟩⟩
    exact ⟨_, results_none rfl _ _ _, ⟨_, rfl⟩, .inl ⟨_, rfl, by rw [HL.out]; exact hJ.putObj _ hj (by omega) hK rfl⟩⟩
  case stop =>
    rintro D c pre V hD hp ⟨rfl, hj⟩ hK
    gi_wp2
    refine ⟨by simp, .inl ⟨_, _, rfl, run_takeDeferred hK, ?_⟩⟩
    exact ⟨_, results_none rfl _ _ _, ⟨_, rfl⟩, .inr ⟨pre.map toPn, by rw [HL.out]; exact hp.map toPn, hJx.putObj _ hj (by omega) hK rfl⟩⟩
end Go.Proofs.YtffbdnlfknomnaaDoor.Wt
/- Blocks of cells; the counts; the first place that is kept. -/
namespace Go.Proofs.YtffbdnlfknomnaaDoor.Wt
open Go.RowKit Go.Shelf

/-- A block of cells. -/
def Cb (W : World) (B : Nat) (c : Array Value) (t : Nat) : Prop := W.heap[B]? = some (.cells c t (0, 0))
theorem Cb.lt {W : World} {B : Nat} {c : Array Value} {t : Nat} (h : Cb W B c t) : B < W.heap.size := (Array.getElem?_eq_some_iff.1 h).1
theorem Cb.cell {W : World} {B : Nat} {c : Array Value} {t : Nat} (h : Cb W B c t) (i : Nat) : W.cell? ⟨B, i, none⟩ = c[i]? := by
  unfold Cb at h
  simp [World.cell?, h]
theorem Cb.frozen {W : World} {B : Nat} {c : Array Value} {t : Nat} (h : Cb W B c t) (i : Nat) : W.frozen? ⟨B, i, none⟩ = false := by
  unfold Cb at h
  simp [World.frozen?, h]
theorem Cb.new (w : World) (c : Array Value) (t : Nat) : Cb (w.alloc (.cells c t)) w.heap.size c t := World.alloc_heap_new w _
theorem Cb.below {W W' : World} {B : Nat} {c : Array Value} {t : Nat} (h : Cb W B c t) (hb : Below W.heap.size W W') : Cb W' B c t := (hb.block _ h.lt).trans h
theorem Cb.alloc {W : World} {B : Nat} {c : Array Value} {t : Nat} (h : Cb W B c t) (o : Obj) : Cb (W.alloc o) B c t := h.below ((Below.refl _ _).alloc (Nat.le_refl _) _)
theorem Cb.set {W : World} {B : Nat} {c : Array Value} {t : Nat} (h : Cb W B c t) (i : Nat) (v : Value) : Cb (W.setCell ⟨B, i, none⟩ v) B (c.setIfInBounds i v) t := by
  obtain ⟨hlt, hk⟩ := Array.getElem?_eq_some_iff.1 h
  show (W.heap.modify B _)[B]? = _
  rw [Array.getElem?_eq_getElem (by rw [Array.size_modify]; exact hlt), Array.getElem_modify_self, hk]
  rfl
theorem Cb.other {W : World} {B B' : Nat} {c : Array Value} {t : Nat} (h : Cb W B c t) (hne : B ≠ B') (i : Nat) (v : Value) : Cb (W.setCell ⟨B', i, none⟩ v) B c t := (Below.heap_setCell _ _ _ B hne).trans h
theorem Cb.kept {W W' : World} {row : Option Nat} {B : Nat} {c : Array Value} {t : Nat} (h : Cb W B c t) (hg : W.grownBy W' row) (hne : some B ≠ row) : Cb W' B c t := (hg.block B h.lt hne).trans h
theorem cb_own {β : Type} (B : Nat) (t : Nat) (f : β → Array Value) : Own (fun s W => Cb W B (f s) t) := fun s X Y row hs hg hrow =>
  hs.kept hg (fun e' => by obtain ⟨o, ho, hc⟩ := hrow B e'.symm; rw [show X.heap[B]? = _ from hs] at ho; cases ho; cases hc)
theorem Cb.kt {X Y : World} {B : Nat} {c : Array Value} {t : Nat} (h : Cb X B c t) (k : Kt X Y) (ht : kt t = true) : Cb Y B c t := k.cells _ _ _ _ h ht
theorem cb_keep {A C : World} {B : Nat} {t : Nat} {c : Array Value} {row : Option Nat} {n : Nat} (h : Cb A B c t) (hg : A.grownBy C row) (hr : ∀ r, row = some r → n ≤ r ∧ ∃ o, A.heap[r]? = some o ∧ o.isCells = false) : Cb C B c t :=
  cb_own B t (fun (_ : Unit) => c) () A C row h hg (fun r e => (hr r e).2)
/-- A store into a cell that a body may write. -/
theorem Kt.set {W : World} {B : Nat} {c : Array Value} {t : Nat} (h : Cb W B c t) (ht : kt t = false) (h2 : 2 ≤ B) (i : Nat) (v : Value) : Kt W (W.setCell ⟨B, i, none⟩ v) :=
  ⟨(KeepsWalks.setCell W _ v).size, fun k hk => Below.heap_setCell _ _ _ k (by show k ≠ B; omega), fun k c' t' fz h1 h3 => by
    refine (Below.heap_setCell _ _ _ k (fun e => ?_)).trans h1
    have e' : k = B := e
    subst e'
    unfold Cb at h
    rw [h] at h1
    cases h1
    rw [ht] at h3
    cases h3⟩
/-- A count: the function that makes its iterator, the iterator, the places. -/
structure Cnt (m g : Nat) (E : List UInt8 → List Nat) : Prop where
  scl : Scl E
  made : PlMk m g
  seq : PlSeq g E
  em : ∀ args w, (callFunc m args).run Tryd.prog w = .ok (.enter m args) w
  eg : ∀ args w, (callFunc g args).run Tryd.prog w = .ok (.enter g args) w
theorem units_cnt : Cnt 34 58 unitsL := ⟨units_scl, units_mk, units_o, enters_of Tryd.func34 (by kernel_rfl) rfl, enters_of Tryd.func58 (by kernel_rfl) rfl⟩
theorem runes_cnt : Cnt 35 59 runesL := ⟨runes_scl, runes_mk, runes_o, enters_of Tryd.func35 (by kernel_rfl) rfl, enters_of Tryd.func59 (by kernel_rfl) rfl⟩
theorem letters_cnt : Cnt 36 60 lettersL := ⟨letters_scl, letters_mk, letters_o, enters_of Tryd.func36 (by kernel_rfl) rfl, enters_of Tryd.func60 (by kernel_rfl) rfl⟩
theorem ends_cnt : Cnt 37 62 endsL := ⟨ends_scl, ends_mk, ends_o, enters_of Tryd.func37 (by kernel_rfl) rfl, enters_of Tryd.func62 (by kernel_rfl) rfl⟩
/-- The first place that is kept: its number and itself. -/
def kpt (l : List UInt8) : Nat → List Nat → Option (Nat × Nat)
  | _, [] => none
  | i, p :: t => if isE l p = true then some (i, p) else kpt l (i + 1) t
theorem kpt_snoc (l : List UInt8) : ∀ (A : List Nat) (i x : Nat), kpt l i (A ++ [x]) = match kpt l i A with
    | some y => some y
    | none => if isE l x = true then some (i + A.length, x) else none
  | [], i, x => by
    show kpt l i [x] = _
    unfold kpt kpt
    rfl
  | p :: A, i, x => by
    rw [List.cons_append]
    unfold kpt
    by_cases h : isE l p = true
    · rw [if_pos h, if_pos h]
    · rw [if_neg h, if_neg h, kpt_snoc l A (i + 1) x, List.length_cons, show i + 1 + A.length = i + (A.length + 1) by omega]
theorem kpt_lt (l : List UInt8) : ∀ (A : List Nat) (i : Nat) (y : Nat × Nat), (∀ p ∈ A, p < l.length) → kpt l i A = some y → y.2 < l.length
  | [], _, _, _, h => by cases h
  | p :: A, i, y, hA, h => by
    unfold kpt at h
    split at h
    · cases h; exact hA p (List.mem_cons_self ..)
    · exact kpt_lt l A _ y (fun q hq => hA q (List.mem_cons_of_mem _ hq)) h
theorem kpt_all {E : List UInt8 → List Nat} (h : Scl E) (l : List UInt8) (p : Nat) (t : List Nat) (he : E l = p :: t) : kpt l 0 (E l) = some (0, p) := by
  rw [he]
  unfold kpt
  rw [if_pos (h.edge l p t he)]
/-- What a scale keeps: a slice of spots, none or one. -/
def Kpd (W : World) (lo : Nat) (kv : Value) (o : Option (Nat × Nat)) : Prop := match o with
  | none => kv = .slice none 0 0
  | some y => ∃ (g c : Nat), kv = .slice (some ⟨g, 0, none⟩) 1 c ∧ lo ≤ g ∧ g < W.heap.size ∧ W.cell? ⟨g, 0, none⟩ = some (.int .i64 y.1) ∧ W.cell? ⟨g, 1, none⟩ = some (.int .i64 y.2)
theorem Kpd.keep {W W' : World} {lo : Nat} {kv : Value} {o : Option (Nat × Nat)} (h : Kpd W lo kv o) (hs : W.heap.size ≤ W'.heap.size) (hk : ∀ k, lo ≤ k → k < W.heap.size → ∀ i v, W.cell? ⟨k, i, none⟩ = some v → W'.cell? ⟨k, i, none⟩ = some v) : Kpd W' lo kv o := by
  cases o with
  | none => exact h
  | some y =>
    obtain ⟨g, c, h1, h2, h3, h4, h5⟩ := h
    exact ⟨g, c, h1, h2, Nat.lt_of_lt_of_le h3 hs, hk g h2 h3 0 _ h4, hk g h2 h3 1 _ h5⟩
theorem Kpd.below {W W' : World} {lo : Nat} {kv : Value} {o : Option (Nat × Nat)} (h : Kpd W lo kv o) (hb : Below W.heap.size W W') : Kpd W' lo kv o :=
  h.keep hb.size fun k _ hk i _ hv => (hb.cell (p := ⟨k, i, none⟩) hk).trans hv
theorem Kpd.other {W : World} {lo B : Nat} {kv : Value} {o : Option (Nat × Nat)} (h : Kpd W lo kv o) (hB : B < lo) (i : Nat) (u : Value) : Kpd (W.setCell ⟨B, i, none⟩ u) lo kv o :=
  h.keep (KeepsWalks.setCell W _ u).size fun k hk _ j v hv => (World.cell?_of_block (w := W) (a := ⟨k, j, none⟩) (Below.heap_setCell _ _ _ k (by show k ≠ B; omega))).trans hv
theorem Kpd.low {W : World} {lo lo' : Nat} {kv : Value} {o : Option (Nat × Nat)} (h : Kpd W lo kv o) (hl : lo' ≤ lo) : Kpd W lo' kv o := by
  cases o with
  | none => exact h
  | some y =>
    obtain ⟨g, c, h1, h2, h3⟩ := h
    exact ⟨g, c, h1, Nat.le_trans hl h2, h3⟩
theorem kpd_keep {A C : World} {lo : Nat} {kv : Value} {o : Option (Nat × Nat)} {row : Option Nat} {n : Nat} (h : Kpd A lo kv o) (hg : A.grownBy C row) (hr : ∀ r, row = some r → n ≤ r ∧ ∃ o, A.heap[r]? = some o ∧ o.isCells = false) : Kpd C lo kv o :=
  h.keep hg.size fun _ _ _ _ _ hv => cell_kept hv hg (fun r e => (hr r e).2)
/-- What a body does: cells of some types from N on alone. -/
structure Bd (N : Nat) (X Y : World) : Prop where
  others : KeepsOthers X Y
  kt : Kt X Y
  low : Below N X Y
theorem Bd.refl (N : Nat) (X : World) : Bd N X X := ⟨KeepsOthers.refl X, Kt.refl X, Below.refl N X⟩
theorem Bd.trans {N : Nat} {X Y Z : World} (h : Bd N X Y) (k : Bd N Y Z) : Bd N X Z := ⟨h.others.trans k.others, Kt_t h.kt k.kt, h.low.trans k.low⟩
theorem Bd.below {N : Nat} {X Y : World} (h : Below X.heap.size X Y) (h2 : 2 ≤ X.heap.size) (hN : N ≤ X.heap.size) : Bd N X Y :=
  ⟨⟨h.size, fun k _ hk _ => (h.block k (Array.getElem?_eq_some_iff.1 hk).1).trans hk⟩, Kt.below h h2, h.mono hN⟩
theorem Bd.set {N : Nat} {W : World} {B : Nat} {c : Array Value} {t : Nat} (h : Cb W B c t) (ht : Wt.kt t = false) (h2 : 2 ≤ N) (hN : N ≤ B) (i : Nat) (v : Value) : Bd N W (W.setCell ⟨B, i, none⟩ v) :=
  ⟨KeepsOthers.setCell W _ v, Kt.set h ht (by omega) i v, (Below.refl N W).setCell (p := ⟨B, i, none⟩) hN v⟩
end Go.Proofs.YtffbdnlfknomnaaDoor.Wt
/- Counting from a kept place on: the mathematics. -/
namespace Go.Proofs.YtffbdnlfknomnaaDoor.Wt

/-- Goes on to the first place that is not below at, or has the number n. -/
def rch (n at_ : Int) : List Nat → Nat → Nat → Nat × Nat
  | [], k, a => (k, a)
  | q :: t, k, _ => if at_ ≤ (q : Int) ∨ (k : Int) = n then (k, q) else rch n at_ t (k + 1) q
theorem rch_go (n at_ : Int) : ∀ (A B : List Nat) (k a : Nat), (∀ (i q : Nat), A[i]? = some q → ¬ (at_ ≤ (q : Int) ∨ ((k + i : Nat) : Int) = n)) → rch n at_ (A ++ B) k a = rch n at_ B (k + A.length) (A.getLastD a)
  | [], B, k, a, _ => rfl
  | q :: A, B, k, a, h => by
    rw [List.cons_append, rch, if_neg (show ¬ (at_ ≤ (q : Int) ∨ (k : Int) = n) from h 0 q rfl), rch_go n at_ A B (k + 1) q (fun i z hz => by
      have := h (i + 1) z hz
      rw [show k + 1 + i = k + (i + 1) by omega]
      exact this), List.length_cons, List.getLastD_cons, show k + 1 + A.length = k + (A.length + 1) by omega]
theorem rch_here (n at_ : Int) (A B : List Nat) (q k a : Nat) (h : ∀ (i q : Nat), A[i]? = some q → ¬ (at_ ≤ (q : Int) ∨ ((k + i : Nat) : Int) = n)) (hq : at_ ≤ (q : Int) ∨ ((k + A.length : Nat) : Int) = n) : rch n at_ (A ++ q :: B) k a = (k + A.length, q) := by
  rw [rch_go n at_ A _ k a h, rch, if_pos hq]
/-- How many are below a number. -/
def cntB (B : List Nat) (at_ : Int) : Nat := (B.filter fun (q : Nat) => decide ((q : Int) < at_)).length
theorem rch_count (at_ : Int) : ∀ (B : List Nat) (k a : Nat) (n : Int), B.Pairwise (· < ·) → ((k + B.length : Nat) : Int) ≤ n → (rch n at_ B k a).1 = k + cntB B at_
  | [], k, a, n, _, _ => rfl
  | q :: B, k, a, n, hp, hn => by
    obtain ⟨h1, h2⟩ := List.pairwise_cons.1 hp
    rw [List.length_cons] at hn
    rw [rch]
    by_cases h : at_ ≤ (q : Int)
    · rw [if_pos (.inl h)]
      have : cntB (q :: B) at_ = 0 := by
        unfold cntB
        rw [List.length_eq_zero_iff, List.filter_eq_nil_iff]
        intro z hz
        simp only [decide_eq_true_eq]
        rcases List.mem_cons.1 hz with rfl | hz
        · omega
        · have := h1 z hz; omega
      rw [this]; rfl
    · rw [if_neg (by omega), rch_count at_ B (k + 1) q n h2 (by omega)]
      unfold cntB
      rw [List.filter_cons_of_pos (by simpa using (by omega : (q : Int) < at_)), List.length_cons]
      omega
theorem rch_place (at_ : Int) : ∀ (B : List Nat) (k a j : Nat), (∀ q ∈ B, (q : Int) < at_) → j < B.length → (rch ((k + j : Nat) : Int) at_ B k a).2 = B[j]?.getD 0
  | [], _, _, _, _, h => by cases h
  | q :: B, k, a, j, hB, hj => by
    have hq := hB q (List.mem_cons_self ..)
    rw [rch]
    cases j with
    | zero => rw [if_pos (.inr (by omega))]; rfl
    | succ j =>
      rw [if_neg (by omega), show k + (j + 1) = (k + 1) + j by omega, rch_place at_ B (k + 1) q j (fun z hz => hB z (List.mem_cons_of_mem _ hz)) (by simpa using hj)]
      rfl
/-- Where the number n is. -/
def plcB (B : List Nat) (n : Int) (d : Nat) : Nat := if n < 0 then 0 else B[n.toNat]?.getD d
end Go.Proofs.YtffbdnlfknomnaaDoor.Wt
