/- The iterators of Each and of Words (package word), as such that others may range over. -/
import Derived.Test.YtkophiklkgefnaaDoorWdEachJoint
import Derived.Test.YtkophiklkgefnaaDoorWdKindJoint
import Derived.Test.YtkophiklkgefnaaDoorRngOJoint
namespace Go.Proofs.YtkophiklkgefnaaDoor.Wd
open Go.RowKit Go.Shelf
attribute [local go_sem] Oper.semAt_some

/-- The types of what a body may write: numbers. -/
def kt (t : Nat) : Bool := !(t == 3)
/-- What a body leaves as it was: the tables, and all cells of other types. -/
structure Kt (X Y : World) : Prop where
  size : X.heap.size ≤ Y.heap.size
  low : ∀ k, k < 2 → Y.heap[k]? = X.heap[k]?
  cells : ∀ (k : Nat) (c : Array Value) (t : Nat) (fz : Nat × Nat), X.heap[k]? = some (.cells c t fz) → kt t = true → Y.heap[k]? = some (.cells c t fz)
theorem Kt_t {A B C : World} (h : Kt A B) (k : Kt B C) : Kt A C :=
  ⟨Nat.le_trans h.size k.size, fun i hi => (k.low i hi).trans (h.low i hi), fun i c t fz h1 h2 => k.cells i c t fz (h.cells i c t fz h1 h2) h2⟩
theorem Kt_b {w : World} (hw : 2 ≤ w.heap.size) (W : World) (l : Nat) (o o' : Obj) (hl : w.heap.size ≤ l) (h : W.heap[l]? = some o) (hc : o.isCells = false) (_ : o.isWalk = false) : Kt W (W.putObj l o') :=
  ⟨by simp, fun k hk => World.putObj_heap_other (by omega), fun k c t fz h1 _ => (World.putObj_heap_other (fun e => by subst e; rw [h] at h1; cases h1; cases hc)).trans h1⟩
theorem Kt.refl (X : World) : Kt X X := ⟨Nat.le_refl _, fun _ _ => rfl, fun _ _ _ _ h _ => h⟩
theorem Kt.below {X Y : World} (h : Below X.heap.size X Y) (h2 : 2 ≤ X.heap.size) : Kt X Y :=
  ⟨h.size, fun k hk => h.block k (by omega), fun k c t fz h1 _ => (h.block k (Array.getElem?_eq_some_iff.1 h1).1).trans h1⟩
theorem WaAt.kt {Bs : Nat} {l : List UInt8} {X Y : World} (h : WaAt Bs l X) (k : Kt X Y) : WaAt Bs l Y := h.keeps k.size fun i hi => by
  rcases hi with rfl | hi
  · have h1 := h.bs
    unfold Boxed at h1
    rw [h1]; exact k.cells _ _ _ _ h1 rfl
  · exact k.low i hi
theorem waAt_g {β : Type} (B Bs : Nat) (l : List UInt8) (hB : 2 ≤ B) : OwnFrom B (fun (_ : β) W => WaAt Bs l W) := fun _ A C row h hg hr => by
  refine h.keeps hg.size fun k hk => hg.block k (h.lt k hk) fun e => ?_
  obtain ⟨hle, o, ho, hc⟩ := hr k e.symm
  rcases hk with rfl | hk
  · have := h.bs; unfold Boxed at this; rw [this] at ho; cases ho; cases hc
  · omega
theorem tbs_low {X Y : World} (h : Ev.Tbs tabs X) (k : ∀ i, i < 2 → Y.heap[i]? = X.heap[i]?) : Ev.Tbs tabs Y := fun x hx => by
  obtain ⟨c, h1, h2⟩ := h x hx
  simp only [tabs, List.mem_cons, List.mem_nil_iff, or_false] at hx
  rcases hx with rfl | rfl
  · exact ⟨c, (k 0 (by decide)).trans h1, h2⟩
  · exact ⟨c, (k 1 (by decide)).trans h1, h2⟩
theorem tbs_from {β : Type} (B : Nat) (hB : 2 ≤ B) : OwnFrom B (fun (_ : β) W => Ev.Tbs tabs W) := fun _ A C row h hg hr =>
  tbs_low h fun i hi => hg.block i (by
    obtain ⟨c, h1, _⟩ := h _ (List.mem_cons_of_mem _ (List.mem_cons_self ..))
    have h3 : 1 < A.heap.size := (Array.getElem?_eq_some_iff.1 h1).1
    omega) fun e => by have := (hr i e.symm).1; omega
/-- The pieces of a text from a place on. -/
def wpF (s : List UInt8) : Nat → Nat → List (Nat × Nat)
  | 0, _ => []
  | f + 1, p => if p < s.length then (p, p + wnx (s.drop p)) :: wpF s f (p + wnx (s.drop p)) else []
theorem wpF_any (s : List UInt8) : ∀ (f g p : Nat), s.length - p ≤ f → s.length - p ≤ g → wpF s f p = wpF s g p
  | 0, 0, _, _, _ => rfl
  | 0, g + 1, p, hf, hg => by unfold wpF; rw [if_neg (by omega)]
  | f + 1, 0, p, hf, hg => by unfold wpF; rw [if_neg (by omega)]
  | f + 1, g + 1, p, hf, hg => by
    unfold wpF
    by_cases h : p < s.length
    · have := wst s p h
      rw [if_pos h, if_pos h, wpF_any s f g _ (by omega) (by omega)]
    · rw [if_neg h, if_neg h]
def wpl (s : List UInt8) (p : Nat) : List (Nat × Nat) := wpF s (s.length - p) p
theorem wpl_step (s : List UInt8) (p : Nat) (h : p < s.length) : wpl s p = (p, p + wnx (s.drop p)) :: wpl s (p + wnx (s.drop p)) := by
  have := wst s p h
  unfold wpl
  rw [wpF_any s _ (s.length - p - 1 + 1) p (by omega) (by omega)]
  conv => lhs; unfold wpF
  rw [if_pos h, wpF_any s _ (s.length - (p + wnx (s.drop p))) _ (by omega) (by omega)]
theorem wpl_end (s : List UInt8) (p : Nat) (h : ¬ p < s.length) : wpl s p = [] := by
  unfold wpl
  rw [show s.length - p = 0 by omega]; rfl
/-- A piece of a text. -/
structure Pw (l : List UInt8) where
  v : Nat × Nat
  lt : v.1 < v.2
  le : v.2 ≤ l.length
theorem pw_all (l : List UInt8) : ∀ (n p : Nat), l.length - p ≤ n → ∃ L : List (Pw l), L.map Pw.v = wpl l p ∧ L.length ≤ l.length - p
  | 0, p, h => ⟨[], by rw [wpl_end l p (by omega)]; rfl, by simp⟩
  | n + 1, p, h => by
    by_cases hp : p < l.length
    · obtain ⟨h1, h2⟩ := wst l p hp
      obtain ⟨L, hL, hn⟩ := pw_all l n (p + wnx (l.drop p)) (by omega)
      exact ⟨⟨(p, p + wnx (l.drop p)), h1, h2⟩ :: L, by rw [List.map_cons, hL, wpl_step l p hp], by rw [List.length_cons]; omega⟩
    · exact ⟨[], by rw [wpl_end l p hp]; rfl, by simp⟩
def encQ {l : List UInt8} (x : Pw l) : Array Value := #[.int .i64 (x.v.1 : Nat), .int .i64 (x.v.2 : Nat)]
set_option maxHeartbeats 2000000 in
theorem weach_o (n : Nat) (hn : 1 ≤ n) (Bs : Nat) (l : List UInt8) (L : List (Pw l)) (hL : L.map Pw.v = wpl l 0) (w : World) (hR : WaAt Bs l w) (hl : l.length ≤ 1000000000) :
    SeqO Fence.wide n Tryd.prog 73 #[.pointer (some ⟨Bs, 0, none⟩)] encQ Kt (fun xs => xs = L) (fun pre => pre <+: L) L.length w := fun lp J Jx W hbW hJ hJx hY h0 => by
  have HRW := hid (hR.below hbW)
  have hcW := HRW.out.bs.cell
  have HLL := hid hL
  clear hR hbW hL
  refine callsIn_of_wp Tryd.func73 rfl trivial ?_ rfl
  simp only [Tryd.ntmps73, List.size_toArray, List.length_cons, List.length_nil, Nat.reduceAdd, Nat.reduceSub, Array.replicate_succ, Array.replicate_zero, List.push_toArray, List.append_toArray, List.nil_append, List.cons_append]
  gi_wp2
  gi_loopw [3] (fun v wr => ∃ (p : Nat) (pre rest : List (Pw l)), v = .int .i64 p ∧ p ≤ l.length ∧ Hid (rest.map Pw.v = wpl l p) ∧ Hid (L = pre ++ rest) ∧ Hid (J pre wr) ∧ Hid (WaAt Bs l wr)) (fun v _ => l.length - (intOf v).toNat)
  case atStart => exact ⟨0, [], L, rfl, Nat.zero_le _, HLL, rfl, h0, HRW⟩
  case round =>
    obtain ⟨p, pre, rest, rfl, hp, HC, HP, HJ, HR⟩ := hrel
    clear hcW
    have hc := HR.out.bs.cell
    by_cases hlt : p < l.length
    · have hlti : (p : Int) < (l.length : Int) := by omega
      obtain ⟨hb1, hb2⟩ := wst l p hlt
      have HDN := hid (drop_ne l p hlt)
      have HDL := hid (show (l.drop p).length ≤ 1000000000 by rw [List.length_drop]; omega)
      obtain ⟨x, R, rfl⟩ : ∃ x R, rest = x :: R := by
        cases rest with
        | nil => have h1 := HC.out; rw [wpl_step l p hlt] at h1; cases h1
        | cons x R => exact ⟨x, R, rfl⟩
      have hx := HC.out
      rw [wpl_step l p hlt, List.map_cons] at hx
      have HX := hid (List.cons.inj hx).1
      have HRR := hid (List.cons.inj hx).2
      clear hx HC
      gi_wp2_with fail
      rw [ext_drop]
      refine ⟨trivial, (callsIn_wide.2 (wnext_any (l.drop p) wr HR.out.tb HDN.out HDL.out)).mono ?_⟩
      rintro e w1 ⟨rfl, be1⟩
      have HJ1 := hid (hJ pre wr w1 none HJ.out (wgrown be1) (fun r e => by cases e))
      have HR1 := hid (HR.out.below be1)
      obtain ⟨q, hq⟩ : ∃ q, q = wnx (l.drop p) := ⟨_, rfl⟩
      rw [← hq] at hb1 hb2 HX HRR
      rw [← hq]
      clear be1 hq HJ HR hc
      have HP2 := hid (show L = (pre ++ [x]) ++ R by rw [HP.out, List.append_assoc]; rfl)
      obtain ⟨fn, tmps, assign, body, hy, hRR⟩ := hY pre x w1 HJ1.out (by rw [HP2.out]; simp)
      dsimp only [encQ] at hy
      rw [HX.out] at hy
      simp only [Int.natCast_add] at hy
      clear hY
      gi_wp2
      refine hRR.mono ?_
      rintro e W3 ⟨_, (⟨rfl, hJ3, hk3⟩ | ⟨rfl, hJx3⟩)⟩
      · have HJ3 := hid hJ3
        have HR3 := hid (HR1.out.kt hk3)
        clear hJ3 hk3
        gi_wp2
        go_roundw
        case rel => exact ⟨p + q, pre ++ [x], R, by rw [Int.natCast_add], hb2, HRR, HP2, HJ3, HR3⟩
        case measure => simp [intOf]; omega
      · have HJX := hid hJx3
        clear hJx3
        gi_wp2
        refine bodyPost_ret (results_none rfl _ _ _) rfl ?_
        exact ⟨⟨_, rfl⟩, .inr ⟨pre ++ [x], ⟨R, by rw [HP2.out]⟩, HJX.out⟩⟩
    · have hlti : ¬ (p : Int) < (l.length : Int) := by omega
      have HE := hid (show L = pre by
        cases rest with
        | nil => rw [HP.out, List.append_nil]
        | cons x R => have h1 := HC.out; rw [wpl_end l p hlt] at h1; cases h1)
      gi_wp2
      go_end0
      exact ⟨⟨_, rfl⟩, .inl (by rw [HE.out]; exact HJ.out)⟩
/-- At the wide fence a round's depth has no part. -/
theorem round_wide {m m' lp l : Nat} {f : FuncId} {tmps : Array Value} {assign body : Code} {w : World} {R : Ending → World → Prop} (h : RoundIn Fence.wide m Tryd.prog l f tmps assign body w R) : RoundIn (Fence.wide.inRound lp) m' Tryd.prog l f tmps assign body w R :=
  ⟨trivial, fun c cs _ => h.2 c cs (room_wide _)⟩
/-- Whether a piece is a word. -/
def wrd (p : List UInt8) : Bool := decide (wkd (clL p) = 4) || decide (wkd (clL p) = 3)
set_option maxHeartbeats 1000000 in
theorem isWord_any (l : List UInt8) (w : World) (hw : Ev.Tbs tabs w) :
    Calls Tryd.prog 45 #[.string ⟨l.toArray⟩] w fun e w' => e = .returned (.bool (wrd l)) ∧ Below w.heap.size w w' := by
  have HW := hid hw
  clear hw
  go_enter Tryd.func45, Tryd.ntmps45
  go_wp2_with fail
  refine (wkind_any l w HW.out).mono ?_
  rintro e w1 ⟨rfl, be⟩
  have HB := hid be
  clear be
  have HV := hid (show wrd l = (decide (wkd (clL l) = 4) || decide (wkd (clL l) = 3)) from rfl)
  obtain ⟨k, hk⟩ : ∃ k, k = wkd (clL l) := ⟨_, rfl⟩
  rw [← hk] at HV ⊢
  clear hk
  by_cases k4 : k = 4
  · subst k4
    go_wp2
    go_ret
    exact ⟨by rw [HV.out]; rfl, HB.out⟩
  · have k5 : ((k : Int) == 4) = false := beq_eq_false_iff_ne.2 (by omega)
    by_cases k3 : k = 3
    · subst k3
      go_wp2
      go_ret
      exact ⟨by rw [HV.out]; rfl, HB.out⟩
    · have k6 : ((k : Int) == 3) = false := beq_eq_false_iff_ne.2 (by omega)
      have HV2 := hid (show wrd l = false by rw [HV.out, decide_eq_false k4, decide_eq_false k3]; rfl)
      go_wp2
      go_ret
      exact ⟨by rw [HV2.out]; rfl, HB.out⟩
/-- The text of a piece. -/
def ptx (l : List UInt8) (v : Nat × Nat) : List UInt8 := (l.take v.2).drop v.1
/-- A word of a text. -/
structure Wq (l : List UInt8) where
  v : Nat × Nat
  lt : v.1 < v.2
  le : v.2 ≤ l.length
  wd : wrd (ptx l v) = true
def encU {l : List UInt8} (x : Wq l) : Array Value := #[.int .i64 (x.v.1 : Nat), .string ⟨(ptx l x.v).toArray⟩]
def toW {l : List UInt8} (x : Pw l) : List (Wq l) := if h : wrd (ptx l x.v) = true then [⟨x.v, x.lt, x.le, h⟩] else []
theorem toW_yes {l : List UInt8} (x : Pw l) (h : wrd (ptx l x.v) = true) : toW x = [⟨x.v, x.lt, x.le, h⟩] := by unfold toW; rw [dif_pos h]
theorem toW_no {l : List UInt8} (x : Pw l) (h : wrd (ptx l x.v) = false) : toW x = [] := by unfold toW; rw [dif_neg (by rw [h]; exact Bool.false_ne_true)]
theorem toW_len {l : List UInt8} : ∀ L : List (Pw l), (L.flatMap toW).length ≤ L.length
  | [] => Nat.le_refl _
  | x :: L => by
    have ih := toW_len L
    rw [List.flatMap_cons, List.length_append, List.length_cons]
    have h : (toW x).length ≤ 1 := by unfold toW; split <;> simp
    omega
theorem ext_pc (l : List UInt8) (a b : Nat) : (⟨l.toArray⟩ : ByteArray).extract a b = ⟨(ptx l (a, b)).toArray⟩ := by
  unfold ptx
  apply ByteArray.ext
  simp [ByteArray.data_extract, List.drop_take]
theorem words_mk (l : List UInt8) (w : World) :
    Calls Tryd.prog 21 #[.string ⟨l.toArray⟩] w fun e w' => e = .returned (.func (.func 43) #[] #[.pointer (some ⟨w.heap.size, 0, none⟩)]) ∧ w' = w.alloc (.cells #[.string ⟨l.toArray⟩] 9) := by
  go_enter Tryd.func21, Tryd.ntmps21
  go_wp2
  go_ret
  exact ⟨rfl, rfl⟩
set_option maxHeartbeats 4000000 in
theorem words_o (n Bs : Nat) (l : List UInt8) (M : List (Pw l)) (w : World) (hn : 3 ≤ n) (hM : M.map Pw.v = wpl l 0) (hR : WaAt Bs l w) (hv : Ev.Tbs tabs w) (hl : l.length ≤ 1000000) :
    SeqO Fence.wide n Tryd.prog 43 #[.pointer (some ⟨Bs, 0, none⟩)] encU Kt (fun xs => xs = M.flatMap toW) (fun _ => True) M.length w := fun lp J Jx W hbW hJ hJx hY h0 => by
  have HRW := hid (hR.below hbW)
  have HVW := hid (tbs_below hv hbW)
  have hcW := (HRW.out.bs.alloc (.cells #[.func (.yield lp) #[] #[]] 59)).cell
  have h2 := HRW.out.tb.two
  have hn1 : 1 ≤ n := by omega
  have HM := hid hM
  clear hR hbW hM hv
  refine callsIn_of_wp_marks Tryd.func43 rfl trivial ?_ rfl
  simp only [Tryd.ntmps43, List.size_toArray, List.length_cons, List.length_nil, Nat.reduceAdd, Nat.reduceSub, Array.replicate_succ, Array.replicate_zero, List.push_toArray, List.append_toArray, List.nil_append, List.cons_append]
  gi_wp2_with fail
  refine ⟨trivial, (callsIn_wide.2 (weach_any l _)).mono ?_⟩
  rintro e w' ⟨rfl, rfl⟩
  have b1 := (HRW.out.bs.alloc (.cells #[.func (.yield lp) #[] #[]] 59)).alloc (.cells #[.string ⟨l.toArray⟩] 9)
  have b2 := (Boxed.new W 59 (.func (.yield lp) #[] #[])).alloc (.cells #[.string ⟨l.toArray⟩] 9)
  have b3 := Boxed.new (W.alloc (.cells #[.func (.yield lp) #[] #[]] 59)) 9 (.string ⟨l.toArray⟩)
  have hB : Below W.heap.size W ((W.alloc (.cells #[.func (.yield lp) #[] #[]] 59)).alloc (.cells #[.string ⟨l.toArray⟩] 9)) := ((Below.refl _ _).alloc (Nat.le_refl _) _).alloc (by simp) _
  have hs : ((W.alloc (.cells #[.func (.yield lp) #[] #[]] 59)).alloc (.cells #[.string ⟨l.toArray⟩] 9)).heap.size = W.heap.size + 2 := by simp
  have hJ0 : J [] ((W.alloc (.cells #[.func (.yield lp) #[] #[]] 59)).alloc (.cells #[.string ⟨l.toArray⟩] 9)) := hJ [] W _ none h0 (wgrown hB) (fun r e => by cases e)
  rw [World.size_alloc] at b3 ⊢
  obtain ⟨w3, hw3⟩ : ∃ w3, w3 = (W.alloc (.cells #[.func (.yield lp) #[] #[]] 59)).alloc (.cells #[.string ⟨l.toArray⟩] 9) := ⟨_, rfl⟩
  rw [← hw3] at b1 b2 b3 hB hs hJ0 ⊢
  clear hw3 hcW
  have HE := hid (show WaAt (W.heap.size + 1) l w3 from ⟨b3, HRW.out.tb.below hB⟩)
  have HV3 := hid (tbs_below HVW.out hB)
  gi_wp2
  refine rangeO rfl hn1 rfl trivial (enters_of Tryd.func73 (by kernel_rfl) rfl) (weach_o (n - 1) (by omega) (W.heap.size + 1) l M HM.out w3 HE.out (by omega)) Kt_t (Kt_b (by omega)) (Below.refl _ _) (fun _ => rfl)
    (fun pre V => (((J (pre.flatMap toW) V ∧ WaAt (W.heap.size + 1) l V) ∧ Ev.Tbs tabs V) ∧ Boxed V W.heap.size 59 (.func (.yield lp) #[] #[])) ∧ Boxed V Bs 9 (.string ⟨l.toArray⟩))
    (fun c pre V => c = .ret ∧ Jx (pre.flatMap toW) V)
    (OwnFrom.and (OwnFrom.and (OwnFrom.and (OwnFrom.and (fun s A C row h hg hr => own_le hJ (by omega) (s.flatMap toW) A C row h hg hr) (waAt_g _ _ l (by omega))) (tbs_from _ (by omega))) (Own.from (boxed_own _ _ _) _)) (Own.from (boxed_own _ _ _) _))
    (fun c s A C row h hg hr => ⟨h.1, own_le hJx (by omega) (s.flatMap toW) A C row h.2 hg hr⟩)
    ⟨⟨⟨⟨hJ0, HE.out⟩, HV3.out⟩, b2⟩, b1⟩
    (fun x a' _ => a' = { tmps := #[.func (.yield lp) #[] #[], .pointer (some ⟨Bs, 0, none⟩), .pointer (some ⟨W.heap.size, 0, none⟩), .int .i64 (x.v.1 : Nat), .int .i64 (x.v.2 : Nat), undef, .string ⟨l.toArray⟩, .func (.func 73) #[] #[.pointer (some ⟨W.heap.size + 1, 0, none⟩)], .int .i64 (x.v.1 : Nat), .int .i64 (x.v.2 : Nat), undef, undef, undef, undef, undef, undef, undef, undef, undef, undef, undef, undef, undef], defers := [] })
    (fun _ _ _ _ _ _ h _ _ => h) ?assign ?body ?done ?stop
  case assign =>
    intro lp2 pre x V K hI hK
    dsimp only [encQ]
    gi_wp2
    exact hK _ _ (KeepsFrom.refl _ _) (Kt.refl _) hI rfl
  case body =>
    rintro lp2 pre x a' V hlp _ ⟨⟨⟨⟨hj, hwa⟩, htv⟩, hb⟩, hbs⟩ rfl hlt
    have hc := hb.cell
    have hc2 := hbs.cell
    have xl := x.lt
    have xe := x.le
    have HWA := hid hwa
    have HTV := hid htv
    have HBX := hid hb
    have HBS := hid hbs
    have HJ := hid hj
    have x0 : (0 : Int) ≤ (x.v.1 : Int) := by omega
    have x1 : (x.v.1 : Int) ≤ (x.v.2 : Int) := by omega
    have x2 : (x.v.2 : Int) ≤ (l.length : Int) := by omega
    clear hwa hb hj htv hbs
    gi_wp2_with fail
    rw [ext_pc]
    refine ⟨trivial, fun _ => by omega, (CallsIn.inRound lp2 (callsIn_wide.2 (isWord_any (ptx l (x.v.1, x.v.2)) V HTV.out))).mono ?_⟩
    rintro e V1 ⟨rfl, be⟩
    have HJ1 := hid (hJ _ V V1 none HJ.out (wgrown be) (fun r e => by cases e))
    have HWA1 := hid (HWA.out.below be)
    have HTV1 := hid (tbs_below HTV.out be)
    have HBX1 := hid ((be.block _ HBX.out.lt).trans HBX.out)
    have HBS1 := hid ((be.block _ HBS.out.lt).trans HBS.out)
    have hc4 := (show Boxed V1 W.heap.size 59 (.func (.yield lp) #[] #[]) from HBX1.out).cell
    have HKF := hid (KeepsFrom.of_grownBy (B := w3.heap.size) (wgrown be) (fun j e => by cases e))
    have HKT := hid (Kt.below be HWA.out.tb.two)
    obtain ⟨b, hb⟩ : ∃ b, b = wrd (ptx l (x.v.1, x.v.2)) := ⟨_, rfl⟩
    have HQQ := hid (show wrd (ptx l x.v) = b from hb.symm)
    rw [← hb]
    clear be hb HJ HWA HTV HBX HBS hc hc2
    cases b with
    | true =>
      have HTW := hid (toW_yes x HQQ.out)
      obtain ⟨fn, tmps, assign, body, hy, hRR⟩ := hY (pre.flatMap toW) ⟨x.v, x.lt, x.le, HQQ.out⟩ V1 HJ1.out (Nat.lt_of_le_of_lt (toW_len pre) hlt)
      dsimp only [encU] at hy
      clear hY
      gi_wp2
      refine ⟨fun _ => by omega, (round_wide hRR).mono ?_⟩
      rintro e V3 ⟨hkf, (⟨rfl, hJ3, hk3⟩ | ⟨rfl, hJx3⟩)⟩
      · have HQ := hid (show KeepsFrom w3.heap.size V V3 ∧ Kt V V3 ∧ (((J ((pre ++ [x]).flatMap toW) V3 ∧ WaAt (W.heap.size + 1) l V3) ∧ Ev.Tbs tabs V3) ∧ Boxed V3 W.heap.size 59 (.func (.yield lp) #[] #[])) ∧ Boxed V3 Bs 9 (.string ⟨l.toArray⟩) from
          ⟨HKF.out.trans (keeps_le hkf (by omega)), Kt_t HKT.out hk3, ⟨⟨⟨by rw [List.flatMap_append, List.flatMap_cons, HTW.out]; exact hJ3, HWA1.out.kt hk3⟩, tbs_low HTV1.out hk3.low⟩, hk3.cells _ _ _ _ HBX1.out rfl⟩, hk3.cells _ _ _ _ HBS1.out rfl⟩)
        clear hkf hJ3 hk3
        gi_wp2
        exact HQ.out
      · have HQ := hid (show KeepsFrom w3.heap.size V V3 ∧ Jx ((pre ++ [x]).flatMap toW) V3 from ⟨HKF.out.trans (keeps_le hkf (by omega)), by rw [List.flatMap_append, List.flatMap_cons, HTW.out]; exact hJx3⟩)
        clear hkf hJx3
        gi_wp2
        exact ⟨HQ.out.1, rfl, HQ.out.2⟩
    | false =>
      have HTW := hid (toW_no x HQQ.out)
      have HQ := hid (show KeepsFrom w3.heap.size V V1 ∧ Kt V V1 ∧ (((J ((pre ++ [x]).flatMap toW) V1 ∧ WaAt (W.heap.size + 1) l V1) ∧ Ev.Tbs tabs V1) ∧ Boxed V1 W.heap.size 59 (.func (.yield lp) #[] #[])) ∧ Boxed V1 Bs 9 (.string ⟨l.toArray⟩) from
        ⟨HKF.out, HKT.out, ⟨⟨⟨by rw [List.flatMap_append, List.flatMap_cons, HTW.out]; simpa using HJ1.out, HWA1.out⟩, HTV1.out⟩, HBX1.out⟩, HBS1.out⟩)
      clear hY
      gi_wp2
      refine ⟨(fun f e => by cases e), ?_⟩
      gi_wp2
      exact HQ.out
  case done =>
    rintro D xs V hD rfl ⟨⟨⟨⟨hj, _⟩, _⟩, _⟩, _⟩ hK
    gi_wp2
    refine ⟨by simp, .inl ⟨_, _, rfl, run_takeDeferred hK, ?_⟩⟩
    exact ⟨_, results_none rfl _ _ _, ⟨_, rfl⟩, .inl ⟨_, rfl, hJ.putObj _ hj (by omega) hK rfl⟩⟩
  case stop =>
    rintro D c pre V hD hp ⟨rfl, hj⟩ hK
    gi_wp2
    refine ⟨by simp, .inl ⟨_, _, rfl, run_takeDeferred hK, ?_⟩⟩
    exact ⟨_, results_none rfl _ _ _, ⟨_, rfl⟩, .inr ⟨pre.flatMap toW, trivial, hJx.putObj _ hj (by omega) hK rfl⟩⟩
end Go.Proofs.YtkophiklkgefnaaDoor.Wd
/- A text of letters alone, or of digits alone, is one piece, and a word. -/
namespace Go.Proofs.YtkophiklkgefnaaDoor.Wd
open Go.RowKit

/-- All runes are of one class. -/
def allC (c : Nat) (l : List UInt8) : Prop := ∀ x ∈ rl l, wdcls x.1 = (c : Int)
theorem al_cut (c : Nat) (hc : c = 10 ∨ c = 16) (l : List UInt8) (h : allC c l) (k : Nat) (h0 : 0 < k) (hk : k < (rl l).length) : wcut l (plc l k) = false := by
  obtain ⟨j, rfl⟩ : ∃ j, k = j + 1 := ⟨k - 1, by omega⟩
  have hj : j < (rl l).length := by omega
  have e1 := List.getElem?_eq_getElem hj
  have e2 := List.getElem?_eq_getElem hk
  have a := (wlast_at l j _ e1).trans (h _ (List.getElem_mem hj))
  have b := (wfirst_at l (j + 1) _ e2).trans (h _ (List.getElem_mem hk))
  exact wh_glued l _ c c a b (take_last l j _ e1).1 (by omega) (by omega) (by rcases hc with rfl | rfl <;> decide)
theorem al_wnxT (c : Nat) (hc : c = 10 ∨ c = 16) (l : List UInt8) (h : allC c l) : ∀ (n k : Nat), (rl l).length - k ≤ n → k ≤ (rl l).length → wnxT l (plc l k) = l.length
  | 0, k, h1, h2 => wnxT_end l _ (by rw [plc_all l k (by omega)]; omega)
  | n + 1, k, h1, h2 => by
    by_cases hk : k < (rl l).length
    · have e1 := List.getElem?_eq_getElem hk
      have hs := plc_succ l k _ e1
      have hle := plc_le l (k + 1)
      have hp := rl_pos l.length l (Nat.le_refl _) _ (List.getElem_mem hk)
      have hlt : plc l k < l.length := by omega
      have hd : dec (l.drop (plc l k)) = (rl l)[k] := by
        have h5 := rl_drop l k (by omega)
        rw [rl_cons _ (drop_ne l _ hlt), List.drop_eq_getElem_cons hk] at h5
        exact (List.cons.inj h5).1
      rw [wnxT_next l _ hlt (fun e => by
        by_cases k0 : k = 0
        · subst k0; exact absurd e.1 (by rw [plc_zero]; omega)
        · rw [al_cut c hc l h k (by omega) hk] at e; exact Bool.false_ne_true e.2), hd, ← hs]
      exact al_wnxT c hc l h n (k + 1) (by omega) (by omega)
    · exact wnxT_end l _ (by rw [plc_all l k (by omega)]; omega)
theorem al_wnx (c : Nat) (hc : c = 10 ∨ c = 16) (l : List UInt8) (h : allC c l) : wnx l = l.length := al_wnxT c hc l h _ 0 (Nat.le_refl _) (by omega)
theorem al_wb (c : Nat) (hc : c = 10 ∨ c = 16) (l : List UInt8) (h : allC c l) (hne : l ≠ []) : (wbnds l).length = 2 := by
  unfold wbnds
  have h0 : 0 < l.length := List.length_pos_iff.2 hne
  rw [if_neg hne, wb_step l 0 h0, List.drop_zero, al_wnx c hc l h, wb_end l _ (by omega)]
  rfl
theorem al_wpl (c : Nat) (hc : c = 10 ∨ c = 16) (l : List UInt8) (h : allC c l) (hne : l ≠ []) : wpl l 0 = [(0, l.length)] := by
  have h0 : 0 < l.length := List.length_pos_iff.2 hne
  rw [wpl_step l 0 h0, List.drop_zero, al_wnx c hc l h, wpl_end l _ (by omega), Nat.zero_add]
/-- Where there is a word, its kind is at least a number's. -/
theorem wrd_kind (p : List UInt8) (h : wrd p = true) : 3 ≤ wkd (clL p) := by
  unfold wrd at h
  simp only [Bool.or_eq_true, decide_eq_true_eq] at h
  omega
theorem al_words (c : Nat) (hc : c = 10 ∨ c = 16) (l : List UInt8) (h : allC c l) (hne : l ≠ []) (hw : wrd l = true) (M : List (Pw l)) (hM : M.map Pw.v = wpl l 0) : (M.flatMap toW).length = 1 := by
  rw [al_wpl c hc l h hne] at hM
  cases M with
  | nil => cases hM
  | cons x R =>
    cases R with
    | cons y R => simp at hM
    | nil =>
      have hv : x.v = (0, l.length) := by simpa using hM
      have hp : wrd (ptx l x.v) = true := by
        rw [hv]
        unfold ptx
        simpa using hw
      rw [List.flatMap_cons, toW_yes x hp]
      rfl
theorem ptx_ne (l : List UInt8) (v : Nat × Nat) (h1 : v.1 < v.2) (h2 : v.2 ≤ l.length) : ptx l v ≠ [] := fun e => by
  have h := congrArg List.length e
  unfold ptx at h
  simp at h
  omega
end Go.Proofs.YtkophiklkgefnaaDoor.Wd
/- The contract of Count (package word). -/
namespace Go.Proofs.YtkophiklkgefnaaDoor.Wd
open Go.RowKit Go.Shelf
attribute [local go_sem] Oper.semAt_some

/-- A store into a cell that a body may write. -/
theorem Kt.set {W : World} {B : Nat} {v0 : Value} (h : Boxed W B 3 v0) (h2 : 2 ≤ B) (v : Value) : Kt W (W.setCell ⟨B, 0, none⟩ v) :=
  ⟨(KeepsWalks.setCell W _ v).size, fun k hk => Below.heap_setCell _ _ _ k (by show k ≠ B; omega), fun k c' t' fz h1 h3 => by
    refine (Below.heap_setCell _ _ _ k (fun e => ?_)).trans h1
    have e' : k = B := e
    subst e'
    unfold Boxed at h
    rw [h] at h1
    cases h1
    cases h3⟩
set_option maxHeartbeats 4000000 in
theorem wcount_in (l : List UInt8) (M : List (Pw l)) (hM : M.map Pw.v = wpl l 0) (hml : M.length ≤ l.length) (w : World) (ht : TbW w) (hv : Ev.Tbs tabs w) (hl : l.length ≤ 1000000) :
    CallsIn Fence.wide 5 Tryd.prog 23 #[.string ⟨l.toArray⟩] w fun e W' => e = .returned (.int .i64 ((M.flatMap toW).length : Nat)) ∧ Below w.heap.size w W' := by
  have HT := hid ht
  have HV := hid hv
  have HM := hid hM
  have h2 := ht.two
  obtain ⟨N, hN⟩ : ∃ N, N = (M.flatMap toW).length := ⟨_, rfl⟩
  rw [← hN]
  have HN := hid hN
  clear hN
  clear ht hv hM
  refine callsIn_of_wp_marks Tryd.func23 rfl trivial ?_ rfl
  simp only [Tryd.ntmps23, List.size_toArray, List.length_cons, List.length_nil, Nat.reduceAdd, Nat.reduceSub, Array.replicate_succ, Array.replicate_zero, List.push_toArray, List.append_toArray, List.nil_append, List.cons_append]
  gi_wp2_with fail
  refine ⟨trivial, (callsIn_wide.2 (words_mk l _)).mono ?_⟩
  rintro e w' ⟨rfl, rfl⟩
  have b2 := (Boxed.new w 3 (.int .i64 0)).alloc (.cells #[.string ⟨l.toArray⟩] 9)
  have b3 := Boxed.new (w.alloc (.cells #[.int .i64 0] 3)) 9 (.string ⟨l.toArray⟩)
  have hB : Below w.heap.size w ((w.alloc (.cells #[.int .i64 0] 3)).alloc (.cells #[.string ⟨l.toArray⟩] 9)) := ((Below.refl _ _).alloc (Nat.le_refl _) _).alloc (by simp) _
  have hs : ((w.alloc (.cells #[.int .i64 0] 3)).alloc (.cells #[.string ⟨l.toArray⟩] 9)).heap.size = w.heap.size + 2 := by simp
  rw [World.size_alloc] at b3 ⊢
  obtain ⟨w3, hw3⟩ : ∃ w3, w3 = (w.alloc (.cells #[.int .i64 0] 3)).alloc (.cells #[.string ⟨l.toArray⟩] 9) := ⟨_, rfl⟩
  rw [← hw3] at b2 b3 hB hs ⊢
  clear hw3
  have HE := hid (show WaAt (w.heap.size + 1) l w3 from ⟨b3, HT.out.below hB⟩)
  have HV3 := hid (tbs_below HV.out hB)
  gi_wp2
  refine rangeO rfl (by omega) rfl trivial (enters_of Tryd.func43 (by kernel_rfl) rfl) (words_o (5 - 1) (w.heap.size + 1) l M w3 (by omega) HM.out HE.out HV3.out (by omega)) Kt_t (Kt_b (by omega)) (Below.refl _ _) (fun _ => rfl)
    (fun pre V => Boxed V w.heap.size 3 (.int .i64 (pre.length : Nat)) ∧ Below w.heap.size w V)
    (fun _ _ _ => False)
    (OwnFrom.and (Own.from (boxed_own w.heap.size 3 (fun pre : List (Wq l) => .int .i64 (pre.length : Nat))) _) (ownFrom_below (by omega) (by omega)))
    (fun _ _ _ _ _ hs _ _ => hs)
    ⟨b2, hB⟩
    (fun x a' _ => a' = { tmps := #[.string ⟨l.toArray⟩, undef, .int .i64 0, .pointer (some ⟨w.heap.size, 0, none⟩), .string ⟨l.toArray⟩, .func (.func 43) #[] #[.pointer (some ⟨w.heap.size + 1, 0, none⟩)], .int .i64 (x.v.1 : Nat), .string ⟨(ptx l x.v).toArray⟩, undef, undef, undef], defers := [] })
    (fun _ _ _ _ _ _ h _ _ => h) ?assign ?body ?done ?stop
  case assign =>
    intro lp2 pre x V K hI hK
    dsimp only [encU]
    gi_wp2
    refine hK _ _ (KeepsFrom.refl _ _) (Kt.refl _) hI ?_
    first | rfl | simp
  case body =>
    rintro lp2 pre x a' V hlp _ ⟨hb, hbe⟩ rfl hlt
    have hc := hb.cell
    have hf := hb.frozen
    have hpl : (pre.length : Int) ≤ 1000000 := by omega
    have HQ := hid (show KeepsFrom w3.heap.size V (V.setCell ⟨w.heap.size, 0, none⟩ (.int .i64 ((pre.length : Int) + 1))) ∧ Kt V (V.setCell ⟨w.heap.size, 0, none⟩ (.int .i64 ((pre.length : Int) + 1))) ∧ Boxed (V.setCell ⟨w.heap.size, 0, none⟩ (.int .i64 ((pre.length : Int) + 1))) w.heap.size 3 (.int .i64 ((pre ++ [x]).length : Nat)) ∧ Below w.heap.size w (V.setCell ⟨w.heap.size, 0, none⟩ (.int .i64 ((pre.length : Int) + 1))) from
      ⟨KeepsFrom.of_grownBy (grownBy_setCell' V _ _) (fun j e => by cases e; omega), Kt.set hb h2 _, by rw [List.length_append]; exact hb.set _, hbe.trans ((grownBy_setCell' V w.heap.size _) |> fun g => ⟨g.os, g.tape, g.output, g.size, fun k hk => Below.heap_setCell _ _ _ k (show k ≠ w.heap.size by omega)⟩)⟩)
    clear hb hbe
    gi_wp2
    exact HQ.out
  case done =>
    rintro D xs V hD rfl ⟨hb, hbe⟩ hK
    rw [← HN.out] at hb
    have hc := hb.cell
    gi_wp2
    refine ⟨by simp, .inl ⟨_, _, rfl, run_takeDeferred hK, ?_⟩⟩
    exact ⟨_, results_tmp rfl _ _ _, rfl, hbe.trans (belowK_b (w := w) (Nat.le_refl _) V D _ _ (by omega) hK rfl rfl)⟩
  case stop =>
    rintro D c pre V _ _ h _
    exact h.elim
theorem wcount_any (l : List UInt8) (M : List (Pw l)) (hM : M.map Pw.v = wpl l 0) (hml : M.length ≤ l.length) (w : World) (ht : TbW w) (hv : Ev.Tbs tabs w) (hl : l.length ≤ 1000000) :
    Calls Tryd.prog 23 #[.string ⟨l.toArray⟩] w fun e W' => e = .returned (.int .i64 ((M.flatMap toW).length : Nat)) ∧ Below w.heap.size w W' := callsIn_wide.1 (wcount_in l M hM hml w ht hv hl)
end Go.Proofs.YtkophiklkgefnaaDoor.Wd
/- WordAlone: the law's walk. -/
namespace Go.Proofs.YtkophiklkgefnaaDoor.Wd
open Go.RowKit Go.Shelf
attribute [local go_sem] Oper.semAt_some

theorem eql_words (w : World) (B : Nat) : (binOp BinOp.eql 36 (Value.func (.func 43) #[] #[.pointer (some ⟨B, 0, none⟩)]) Value.nilFunc).run Tryd.prog w = Result.ok (Value.bool false) w := by kernel_rfl
attribute [local go_sem] eql_words
theorem results_bool {fn : Func} (h : fn.results = #[.cell 2 4]) (tmps : Array Value) (w : World) (g : Nat) (v : Value) (hp : tmps[2]?.getD undef = .pointer (some ⟨g, 0, none⟩)) (hg : Boxed w g 4 v) : (results fn tmps).run Tryd.prog w = .ok v w := by
  have c := hg.cell
  simp only [results, h]
  go_simp
theorem own_slice {w : World} {B e sz m : Nat} {v : Value} {xs : List Value} (h : w.ownsRow B e sz v m xs) : ∃ vo vc, v = .slice vo m vc := by
  rcases h.2 with ⟨rfl, rfl⟩ | ⟨g, cap, cur, rfl, _⟩
  · exact ⟨none, 0, rfl⟩
  · exact ⟨_, _, rfl⟩
/-- All of a class, so far. -/
def alB (c : Nat) (p : List UInt8) (k : Nat) : Bool := ((rl p).take k).all fun x => decide (wdcls x.1 = (c : Int))
theorem alB_step (c : Nat) (p : List UInt8) (k : Nat) (x : Nat × Nat) (h : (rl p)[k]? = some x) : alB c p (k + 1) = (alB c p k && decide (wdcls x.1 = (c : Int))) := by
  obtain ⟨hk, rfl⟩ := List.getElem?_eq_some_iff.1 h
  unfold alB
  rw [List.take_succ_eq_append_getElem hk, List.all_append]
  simp
theorem alB_all (c : Nat) (p : List UInt8) (k : Nat) (hk : (rl p).length ≤ k) (h : alB c p k = true) : allC c p := fun x hx => by
  unfold alB at h
  rw [List.take_of_length_le hk] at h
  exact of_decide_eq_true (List.all_eq_true.1 h x hx)
/-- What holds at a word of the text, all told. -/
theorem al_told (p : List UInt8) (hne : p ≠ []) (hw : wrd p = true) (k : Nat) (hk : (rl p).length ≤ k) (h : alB 10 p k = true ∨ alB 16 p k = true) : (wbnds p).length = 2 ∧ ∀ M : List (Pw p), M.map Pw.v = wpl p 0 → (M.flatMap toW).length = 1 := by
  rcases h with h | h
  · have h5 := alB_all 10 p k hk h
    exact ⟨al_wb 10 (.inl rfl) p h5 hne, fun M hM => al_words 10 (.inl rfl) p h5 hne hw M hM⟩
  · have h5 := alB_all 16 p k hk h
    exact ⟨al_wb 16 (.inr rfl) p h5 hne, fun M hM => al_words 16 (.inr rfl) p h5 hne hw M hM⟩
theorem bdr (w : World) : Below w.heap.size w w.drew := Dc.bdrew w
theorem txt_le (l : List UInt8) : (Dc.txt l).length ≤ l.length := by
  have h2 := Dc.plr_len l l.length 0 (by omega)
  have h3 := Dc.cls_len l.length (Dc.plr l 0)
  have h4 : (Dc.txt l).length = (Dc.plr l 0).length := h3
  omega
set_option maxHeartbeats 16000000 in
set_option maxRecDepth 100000 in
theorem alone_in (l : List UInt8) (w : World) (ht : TbW w) (hv : Ev.Tbs tabs w) :
    CallsIn Fence.wide 6 Tryd.prog 6 #[.string ⟨l.toArray⟩] w fun e W' => e = .returned (.bool true) ∧ Below w.heap.size w W' := by
  have HT := hid ht
  have HV := hid hv
  have h2 := ht.two
  clear ht hv
  refine callsIn_of_wp_marks Tryd.func6 rfl trivial ?_ rfl
  simp only [Tryd.ntmps6, List.size_toArray, List.length_cons, List.length_nil, Nat.reduceAdd, Nat.reduceSub, Array.replicate_succ, Array.replicate_zero, List.push_toArray, List.append_toArray, List.nil_append, List.cons_append]
  obtain ⟨W1, hW1⟩ : ∃ W1, W1 = w.alloc (.cells #[.bool false] 4) := ⟨_, rfl⟩
  have hB1 : Below w.heap.size w W1 := by rw [hW1]; exact (Below.refl _ _).alloc (Nat.le_refl _) _
  have a1 : Boxed W1 w.heap.size 4 (.bool false) := by rw [hW1]; exact Boxed.new w 4 _
  by_cases hl : (70 : Int) < (l.length : Int)
  · gi_wp2_with fail
    rw [← hW1]
    refine ⟨trivial, (callsIn_wide.2 (lives12 W1 (tbs_below HV.out hB1))).mono ?_⟩
    rintro e w5 ⟨rfl, be⟩
    have b4 : Boxed w5 w.heap.size 4 (.bool false) := (be.block _ a1.lt).trans a1
    have c5 := b4.cell
    have z5 := b4.frozen
    have HR := hid (b4.set (.bool true))
    have HBR := hid (show Below w.heap.size w (w5.setCell ⟨w.heap.size, 0, none⟩ (.bool true)) from (hB1.trans (be.mono hB1.size)).setCell (Nat.le_refl _) _)
    clear be hB1 hW1 a1 b4
    gi_wp2
    exact ⟨_, results_bool rfl _ _ _ _ rfl HR.out, rfl, HBR.out⟩
  have hl2 : l.length ≤ 70 := by omega
  gi_wp2_with fail
  rw [← hW1]
  refine ⟨trivial, (callsIn_wide.2 (Dc.db12 W1)).mono ?_⟩
  rintro e w2 ⟨be, Q, rfl, hk⟩
  have hB2 := hB1.trans (be.mono hB1.size)
  have a2 : Boxed w2 w.heap.size 4 (.bool false) := (be.block _ a1.lt).trans a1
  have HK2 := hid hk
  clear be hk a1 hB1 hW1
  gi_wp2_with fail
  refine ⟨trivial, (callsIn_wide.2 (words_mk l _)).mono ?_⟩
  rintro e w' ⟨rfl, rfl⟩
  have d2 := (Boxed.new w2 25 (.pointer (some ⟨Q, 0, none⟩))).alloc (.cells #[.string ⟨l.toArray⟩] 9)
  have d3 := Boxed.new (w2.alloc (.cells #[.pointer (some ⟨Q, 0, none⟩)] 25)) 9 (.string ⟨l.toArray⟩)
  have hB : Below w2.heap.size w2 ((w2.alloc (.cells #[.pointer (some ⟨Q, 0, none⟩)] 25)).alloc (.cells #[.string ⟨l.toArray⟩] 9)) := ((Below.refl _ _).alloc (Nat.le_refl _) _).alloc (by simp) _
  have hs : ((w2.alloc (.cells #[.pointer (some ⟨Q, 0, none⟩)] 25)).alloc (.cells #[.string ⟨l.toArray⟩] 9)).heap.size = w2.heap.size + 2 := by simp
  rw [World.size_alloc] at d3 ⊢
  obtain ⟨w3, hw3⟩ : ∃ w3, w3 = (w2.alloc (.cells #[.pointer (some ⟨Q, 0, none⟩)] 25)).alloc (.cells #[.string ⟨l.toArray⟩] 9) := ⟨_, rfl⟩
  rw [← hw3] at d2 d3 hB hs ⊢
  clear hw3
  have hs2 := hB2.size
  have HT2 := hid (HT.out.below hB2)
  have HV2 := hid (tbs_below HV.out hB2)
  have HE := hid (show WaAt (w2.heap.size + 1) l w3 from ⟨d3, HT2.out.below hB⟩)
  have HV3 := hid (tbs_below HV2.out hB)
  obtain ⟨M, hM, hml⟩ := pw_all l _ 0 (Nat.le_refl _)
  have HM := hid hM
  clear hM
  gi_wp2
  refine rangeO rfl (by omega) rfl trivial (enters_of Tryd.func43 (by kernel_rfl) rfl) (words_o (6 - 1) (w2.heap.size + 1) l M w3 (by omega) HM.out HE.out HV3.out (by omega)) Kt_t (Kt_b (by omega)) (Below.refl _ _) (fun _ => rfl)
    (fun _ V => Boxed V w2.heap.size 25 (.pointer (some ⟨Q, 0, none⟩)) ∧ Below w2.heap.size w2 V)
    (fun _ _ _ => False)
    (OwnFrom.and (Own.from (boxed_own w2.heap.size 25 (fun _ : List (Wq l) => .pointer (some ⟨Q, 0, none⟩))) _) (ownFrom_below (by omega) (by omega)))
    (fun _ _ _ _ _ hs _ _ => hs)
    ⟨d2, hB⟩
    (fun x a' _ => a' = { tmps := #[.string ⟨l.toArray⟩, undef, .pointer (some ⟨w.heap.size, 0, none⟩), .pointer (some ⟨w2.heap.size, 0, none⟩), Value.func (.func 43) #[] #[.pointer (some ⟨w2.heap.size + 1, 0, none⟩)], undef, .string ⟨(ptx l x.v).toArray⟩, undef, undef, undef, undef, .string ⟨l.toArray⟩, .int .i64 (l.length : Nat), .bool false, undef, .pointer (some ⟨Q, 0, none⟩), .string ⟨l.toArray⟩, Value.func (.func 43) #[] #[.pointer (some ⟨w2.heap.size + 1, 0, none⟩)], Value.func (.func 43) #[] #[.pointer (some ⟨w2.heap.size + 1, 0, none⟩)], .bool false, Value.func (.func 43) #[] #[.pointer (some ⟨w2.heap.size + 1, 0, none⟩)], .int .i64 (x.v.1 : Nat), .string ⟨(ptx l x.v).toArray⟩, undef, undef, undef, undef, undef, undef, undef, undef, undef, undef, undef, undef, undef, undef, undef, undef, undef, undef, undef, undef, undef, undef, undef, undef, undef, undef, undef, undef, undef, undef, undef, undef, undef, undef, undef, undef, undef, undef, undef, undef, undef, undef, undef, undef, undef, undef, undef, undef, undef], defers := [] })
    (fun _ _ _ _ _ _ h _ _ => h) ?assign ?body ?done ?stop
  case assign =>
    intro lp2 pre x V K hI hK
    dsimp only [encU]
    gi_wp2
    refine hK _ _ (KeepsFrom.refl _ _) (Kt.refl _) hI ?_
    first | rfl | simp
  case body =>
    rintro lp2 pre x a' V hlp _ ⟨hb, hbe⟩ rfl hlt
    have HTV := hid (HT2.out.below hbe)
    have HVV := hid (tbs_below HV2.out hbe)
    have HKV := hid (HK2.out.below hbe)
    have HNE := hid (ptx_ne l x.v x.lt x.le)
    have HWD := hid x.wd
    obtain ⟨p, hp⟩ : ∃ p, p = ptx l x.v := ⟨_, rfl⟩
    have hpl : p.length ≤ 70 := by rw [hp]; unfold ptx; simp; omega
    rw [← hp] at HNE HWD ⊢
    have hvs := hb.lt
    have HBX := hid hb
    have HBE := hid hbe
    have FIN : ∀ U : World, Below V.heap.size V U → KeepsFrom w3.heap.size V U ∧ Kt V U ∧ Boxed U w2.heap.size 25 (.pointer (some ⟨Q, 0, none⟩)) ∧ Below w2.heap.size w2 U := fun U h =>
      ⟨KeepsFrom.of_grownBy (wgrown h) (fun j e => by cases e), Kt.below h HTV.out.two, (h.block _ HBX.out.lt).trans HBX.out, HBE.out.trans (h.mono HBE.out.size)⟩
    have HFIN := hid FIN
    clear FIN hp hbe
    gi_wp2_with fail
    refine ⟨trivial, (CallsIn.inRound lp2 (callsIn_wide.2 (Dc.rrunes_rd p V (by omega)))).mono ?_⟩
    rintro e V1 ⟨xo, xc, rfl, hr, b1⟩
    have HR := hid hr
    have HB1 := hid b1
    have HN := hid (txt_len p)
    obtain ⟨n, hn⟩ : ∃ n, n = (Dc.txt p).length := ⟨_, rfl⟩
    have n9 : n ≤ 70 := by have := txt_le p; omega
    rw [← hn] at HN ⊢
    clear hr b1 hn
    gi_wp2
    gi_loopw [8, 9, 10] (fun a b x wr => ∃ k : Nat, k ≤ n ∧ x = .int .i64 (k : Int) ∧ a = .bool (alB 10 p k) ∧ b = .bool (alB 16 p k) ∧ Hid (Below V.heap.size V wr) ∧ Hid (Dc.RdT wr xo (Dc.txt p))) (fun _ _ x _ => n - (intOf x).toNat)
    case atStart => exact ⟨0, by omega, rfl, rfl, rfl, HB1.out, HR.out⟩
    case round =>
      obtain ⟨k, hk, rfl, rfl, rfl, HB, HX⟩ := hrel
      clear HB1 HR
      by_cases h0 : k < n
      · have hj : k < (rl p).length := by have := HN.out; omega
        have HEx := hid (List.getElem?_eq_getElem hj)
        obtain ⟨y, hy⟩ : ∃ y, y = (rl p)[k] := ⟨_, rfl⟩
        rw [← hy] at HEx
        obtain ⟨g, rfl, hg, z0, _, _⟩ := HX.out k _ (txt_at p k y HEx.out)
        have HRU := hid (rl_rune p y (by rw [hy]; exact List.getElem_mem hj))
        obtain ⟨c, hc, hc2⟩ := wdcls_nat y.1
        have HC := hid hc
        have HC2 := hid hc2
        obtain ⟨u, hu⟩ : ∃ u, u = Dc.wdN (c : Int) := ⟨_, rfl⟩
        have HU := hid hu
        have HNM := hid (fun ww (hh : Dc.Bk Dc.wdU Dc.wdW Q ww) => (show Calls Tryd.prog 16 #[.pointer (some ⟨Q, 0, none⟩), .int .i32 (y.1 : Int)] ww fun e w' => e = .returned (.string ⟨u.toArray⟩) ∧ Below ww.heap.size ww w' by
          have h5 := Dc.named_wd Q y.1 ww hh HRU.out
          rw [HC.out, ← HU.out] at h5
          exact h5))
        obtain ⟨X0, hX0⟩ : ∃ X0, X0 = (y.1 : Int) := ⟨_, rfl⟩
        rw [← hX0] at z0 HNM
        have i0 : (0 : Int) ≤ (k : Int) := by omega
        have i1 : (k : Int) < (n : Int) := by omega
        obtain ⟨q1, hq1⟩ : ∃ q, q = (u == [76, 101, 116, 116, 101, 114]) := ⟨_, rfl⟩
        obtain ⟨q2, hq2⟩ : ∃ q, q = (u == [68, 105, 103, 105, 116]) := ⟨_, rfl⟩
        have HS1 := hid (show alB 10 p (k + 1) = (alB 10 p k && q1) by
          rw [alB_step 10 p k y HEx.out, HC.out, hq1, HU.out, show ([76, 101, 116, 116, 101, 114] : List UInt8) = Dc.wdN ((10 : Nat) : Int) by decide +kernel, wdN_eq c HC2.out 10 (by omega)]
          congr 1
          exact decide_eq_decide.2 (by omega))
        have HS2 := hid (show alB 16 p (k + 1) = (alB 16 p k && q2) by
          rw [alB_step 16 p k y HEx.out, HC.out, hq2, HU.out, show ([68, 105, 103, 105, 116] : List UInt8) = Dc.wdN ((16 : Nat) : Int) by decide +kernel, wdN_eq c HC2.out 16 (by omega)]
          congr 1
          exact decide_eq_decide.2 (by omega))
        obtain ⟨b1, hb1⟩ : ∃ b, b = alB 10 p k := ⟨_, rfl⟩
        obtain ⟨b2, hb2⟩ : ∃ b, b = alB 16 p k := ⟨_, rfl⟩
        rw [← hb1] at HS1 ⊢
        rw [← hb2] at HS2 ⊢
        have q1' := hq1.symm
        have q2' := hq2.symm
        have dc := (show Boxed wr w2.heap.size 25 (.pointer (some ⟨Q, 0, none⟩)) from (HB.out.block _ HBX.out.lt).trans HBX.out).cell
        have HKW := hid (HKV.out.below HB.out)
        clear hX0 hb1 hb2 hq1 hq2 hu hc hc2 hy hj
        gi_wp2_with fail
        cases b1 with
        | true =>
          refine wpIn_region_mix lp2 _ [(0, true), (1, true), (2, true), (3, true), (4, true), (5, true), (6, true), (7, true), (8, false), (9, true), (10, true), (11, true)] (fun w' => w'.cell? ⟨w2.heap.size, 0, none⟩ = some (.pointer (some ⟨Q, 0, none⟩)) ∧ w'.cell? ⟨g, k * 3, none⟩ = some (.int .i32 X0)) (fun _ => false) (by kernel_rfl) (by kernel_rfl) (by kernel_rfl) (fun j hj => by cases hj) rfl (by kernel_rfl) ⟨dc, z0⟩ ?_
          iterate 8 (refine mix_free ?_ rfl (by kernel_rfl) (fun w' hS => ?_) ?_; (rotate_left; (obtain ⟨y8, y9⟩ := hS; go_simp; with_reducible rfl); rotate_left))
          refine mix_go rfl (by kernel_rfl) fun KK hKK => ?_
          go_simp
          refine (HNM.out _ (HKW.out.below (bdr _))).mono ?_
          rintro e w7 ⟨rfl, be⟩
          have HBn7 := hid ((bdr wr).trans be)
          have dc2 := (HBn7.out.cell (p := ⟨w2.heap.size, 0, none⟩) (World.block_lt_of_cell? wr _ dc)).trans dc
          have zz := (HBn7.out.cell (p := ⟨g, k * 3, none⟩) (World.block_lt_of_cell? wr _ z0)).trans z0
          refine hKK _ _ (fun _ => ⟨dc2, zz⟩) ?_
          clear hKK KK be
          iterate 3 (refine mix_free ?_ rfl (by kernel_rfl) (fun w' hS => ?_) ?_; (rotate_left; (go_simp; with_reducible rfl); rotate_left))
          refine mix_end (OnlyN.in ?_)
          go_simp
          have HKW2 := hid (HKW.out.below HBn7.out)
          have HB7 := hid (HB.out.trans (HBn7.out.mono HB.out.size))
          have HX7 := hid (HX.out.below HBn7.out)
          clear HB HX HBn7 HKW dc z0
          have HKW := HKW2
          have dc := dc2
          have z0 := zz
          clear HKW2 dc2 zz
          gi_wp2_with fail
          cases b2 with
          | true =>
            refine wpIn_region_mix lp2 _ [(0, true), (1, true), (2, true), (3, true), (4, true), (5, true), (6, true), (7, true), (8, false), (9, true), (10, true), (11, true)] (fun w' => w'.cell? ⟨w2.heap.size, 0, none⟩ = some (.pointer (some ⟨Q, 0, none⟩)) ∧ w'.cell? ⟨g, k * 3, none⟩ = some (.int .i32 X0)) (fun _ => false) (by kernel_rfl) (by kernel_rfl) (by kernel_rfl) (fun j hj => by cases hj) rfl (by kernel_rfl) ⟨dc, z0⟩ ?_
            iterate 8 (refine mix_free ?_ rfl (by kernel_rfl) (fun w' hS => ?_) ?_; (rotate_left; (obtain ⟨y8, y9⟩ := hS; go_simp; with_reducible rfl); rotate_left))
            refine mix_go rfl (by kernel_rfl) fun KK hKK => ?_
            go_simp
            refine (HNM.out _ (HKW.out.below (bdr _))).mono ?_
            rintro e w8 ⟨rfl, be⟩
            have HBn8 := hid ((bdr w7).trans be)
            have dc2 := (HBn8.out.cell (p := ⟨w2.heap.size, 0, none⟩) (World.block_lt_of_cell? w7 _ dc)).trans dc
            have zz := (HBn8.out.cell (p := ⟨g, k * 3, none⟩) (World.block_lt_of_cell? w7 _ z0)).trans z0
            refine hKK _ _ (fun _ => ⟨dc2, zz⟩) ?_
            clear hKK KK be
            iterate 3 (refine mix_free ?_ rfl (by kernel_rfl) (fun w' hS => ?_) ?_; (rotate_left; (go_simp; with_reducible rfl); rotate_left))
            refine mix_end (OnlyN.in ?_)
            go_simp
            have HKW2 := hid (HKW.out.below HBn8.out)
            have HB8 := hid (HB7.out.trans (HBn8.out.mono HB7.out.size))
            have HX8 := hid (HX7.out.below HBn8.out)
            clear HB7 HX7 HBn8 HKW dc z0
            have HKW := HKW2
            have dc := dc2
            have z0 := zz
            clear HKW2 dc2 zz
            gi_wp2
            go_roundw
            case rel => exact ⟨k + 1, by omega, by go_num, by rw [HS1.out]; rfl, by rw [HS2.out]; rfl, HB8.out, HX8.out⟩
            case measure => simp [intOf]; omega
          | false =>
            refine wpIn_region_mix lp2 _ [(0, true), (1, true), (2, true), (3, true), (4, true), (5, true), (6, true), (7, true), (8, true), (9, true), (10, true), (11, true)] (fun w' => w'.cell? ⟨w2.heap.size, 0, none⟩ = some (.pointer (some ⟨Q, 0, none⟩)) ∧ w'.cell? ⟨g, k * 3, none⟩ = some (.int .i32 X0)) (fun _ => false) (by kernel_rfl) (by kernel_rfl) (by kernel_rfl) (fun j hj => by cases hj) rfl (by kernel_rfl) ⟨dc, z0⟩ ?_
            iterate 2 (refine mix_free ?_ rfl (by kernel_rfl) (fun w' hS => ?_) ?_; (rotate_left; (go_simp; with_reducible rfl); rotate_left))
            iterate 8 (refine mix_pass rfl (by kernel_rfl) ?_)
            iterate 2 (refine mix_free ?_ rfl (by kernel_rfl) (fun w' hS => ?_) ?_; (rotate_left; (go_simp; with_reducible rfl); rotate_left))
            obtain ⟨w8, hw8⟩ : ∃ w', w' = w7.drew := ⟨_, rfl⟩
            have HBn8 := hid (show Below w7.heap.size w7 w8 by rw [hw8]; exact bdr w7)
            have dc2 : w8.cell? ⟨w2.heap.size, 0, none⟩ = some (.pointer (some ⟨Q, 0, none⟩)) := by rw [hw8]; exact dc
            have zz : w8.cell? ⟨g, k * 3, none⟩ = some (.int .i32 X0) := by rw [hw8]; exact z0
            rw [← hw8]
            clear hw8
            refine mix_end (OnlyN.in ?_)
            go_simp
            have HKW2 := hid (HKW.out.below HBn8.out)
            have HB8 := hid (HB7.out.trans (HBn8.out.mono HB7.out.size))
            have HX8 := hid (HX7.out.below HBn8.out)
            clear HB7 HX7 HBn8 HKW dc z0
            have HKW := HKW2
            have dc := dc2
            have z0 := zz
            clear HKW2 dc2 zz
            gi_wp2
            go_roundw
            case rel => exact ⟨k + 1, by omega, by go_num, by rw [HS1.out]; rfl, by rw [HS2.out]; rfl, HB8.out, HX8.out⟩
            case measure => simp [intOf]; omega
        | false =>
          refine wpIn_region_mix lp2 _ [(0, true), (1, true), (2, true), (3, true), (4, true), (5, true), (6, true), (7, true), (8, true), (9, true), (10, true), (11, true)] (fun w' => w'.cell? ⟨w2.heap.size, 0, none⟩ = some (.pointer (some ⟨Q, 0, none⟩)) ∧ w'.cell? ⟨g, k * 3, none⟩ = some (.int .i32 X0)) (fun _ => false) (by kernel_rfl) (by kernel_rfl) (by kernel_rfl) (fun j hj => by cases hj) rfl (by kernel_rfl) ⟨dc, z0⟩ ?_
          iterate 2 (refine mix_free ?_ rfl (by kernel_rfl) (fun w' hS => ?_) ?_; (rotate_left; (go_simp; with_reducible rfl); rotate_left))
          iterate 8 (refine mix_pass rfl (by kernel_rfl) ?_)
          iterate 2 (refine mix_free ?_ rfl (by kernel_rfl) (fun w' hS => ?_) ?_; (rotate_left; (go_simp; with_reducible rfl); rotate_left))
          obtain ⟨w7, hw7⟩ : ∃ w', w' = wr.drew := ⟨_, rfl⟩
          have HBn7 := hid (show Below wr.heap.size wr w7 by rw [hw7]; exact bdr wr)
          have dc2 : w7.cell? ⟨w2.heap.size, 0, none⟩ = some (.pointer (some ⟨Q, 0, none⟩)) := by rw [hw7]; exact dc
          have zz : w7.cell? ⟨g, k * 3, none⟩ = some (.int .i32 X0) := by rw [hw7]; exact z0
          rw [← hw7]
          clear hw7
          refine mix_end (OnlyN.in ?_)
          go_simp
          have HKW2 := hid (HKW.out.below HBn7.out)
          have HB7 := hid (HB.out.trans (HBn7.out.mono HB.out.size))
          have HX7 := hid (HX.out.below HBn7.out)
          clear HB HX HBn7 HKW dc z0
          have HKW := HKW2
          have dc := dc2
          have z0 := zz
          clear HKW2 dc2 zz
          gi_wp2_with fail
          cases b2 with
          | true =>
            refine wpIn_region_mix lp2 _ [(0, true), (1, true), (2, true), (3, true), (4, true), (5, true), (6, true), (7, true), (8, false), (9, true), (10, true), (11, true)] (fun w' => w'.cell? ⟨w2.heap.size, 0, none⟩ = some (.pointer (some ⟨Q, 0, none⟩)) ∧ w'.cell? ⟨g, k * 3, none⟩ = some (.int .i32 X0)) (fun _ => false) (by kernel_rfl) (by kernel_rfl) (by kernel_rfl) (fun j hj => by cases hj) rfl (by kernel_rfl) ⟨dc, z0⟩ ?_
            iterate 8 (refine mix_free ?_ rfl (by kernel_rfl) (fun w' hS => ?_) ?_; (rotate_left; (obtain ⟨y8, y9⟩ := hS; go_simp; with_reducible rfl); rotate_left))
            refine mix_go rfl (by kernel_rfl) fun KK hKK => ?_
            go_simp
            refine (HNM.out _ (HKW.out.below (bdr _))).mono ?_
            rintro e w8 ⟨rfl, be⟩
            have HBn8 := hid ((bdr w7).trans be)
            have dc2 := (HBn8.out.cell (p := ⟨w2.heap.size, 0, none⟩) (World.block_lt_of_cell? w7 _ dc)).trans dc
            have zz := (HBn8.out.cell (p := ⟨g, k * 3, none⟩) (World.block_lt_of_cell? w7 _ z0)).trans z0
            refine hKK _ _ (fun _ => ⟨dc2, zz⟩) ?_
            clear hKK KK be
            iterate 3 (refine mix_free ?_ rfl (by kernel_rfl) (fun w' hS => ?_) ?_; (rotate_left; (go_simp; with_reducible rfl); rotate_left))
            refine mix_end (OnlyN.in ?_)
            go_simp
            have HKW2 := hid (HKW.out.below HBn8.out)
            have HB8 := hid (HB7.out.trans (HBn8.out.mono HB7.out.size))
            have HX8 := hid (HX7.out.below HBn8.out)
            clear HB7 HX7 HBn8 HKW dc z0
            have HKW := HKW2
            have dc := dc2
            have z0 := zz
            clear HKW2 dc2 zz
            gi_wp2
            go_roundw
            case rel => exact ⟨k + 1, by omega, by go_num, by rw [HS1.out]; rfl, by rw [HS2.out]; rfl, HB8.out, HX8.out⟩
            case measure => simp [intOf]; omega
          | false =>
            refine wpIn_region_mix lp2 _ [(0, true), (1, true), (2, true), (3, true), (4, true), (5, true), (6, true), (7, true), (8, true), (9, true), (10, true), (11, true)] (fun w' => w'.cell? ⟨w2.heap.size, 0, none⟩ = some (.pointer (some ⟨Q, 0, none⟩)) ∧ w'.cell? ⟨g, k * 3, none⟩ = some (.int .i32 X0)) (fun _ => false) (by kernel_rfl) (by kernel_rfl) (by kernel_rfl) (fun j hj => by cases hj) rfl (by kernel_rfl) ⟨dc, z0⟩ ?_
            iterate 2 (refine mix_free ?_ rfl (by kernel_rfl) (fun w' hS => ?_) ?_; (rotate_left; (go_simp; with_reducible rfl); rotate_left))
            iterate 8 (refine mix_pass rfl (by kernel_rfl) ?_)
            iterate 2 (refine mix_free ?_ rfl (by kernel_rfl) (fun w' hS => ?_) ?_; (rotate_left; (go_simp; with_reducible rfl); rotate_left))
            obtain ⟨w8, hw8⟩ : ∃ w', w' = w7.drew := ⟨_, rfl⟩
            have HBn8 := hid (show Below w7.heap.size w7 w8 by rw [hw8]; exact bdr w7)
            have dc2 : w8.cell? ⟨w2.heap.size, 0, none⟩ = some (.pointer (some ⟨Q, 0, none⟩)) := by rw [hw8]; exact dc
            have zz : w8.cell? ⟨g, k * 3, none⟩ = some (.int .i32 X0) := by rw [hw8]; exact z0
            rw [← hw8]
            clear hw8
            refine mix_end (OnlyN.in ?_)
            go_simp
            have HKW2 := hid (HKW.out.below HBn8.out)
            have HB8 := hid (HB7.out.trans (HBn8.out.mono HB7.out.size))
            have HX8 := hid (HX7.out.below HBn8.out)
            clear HB7 HX7 HBn8 HKW dc z0
            have HKW := HKW2
            have dc := dc2
            have z0 := zz
            clear HKW2 dc2 zz
            gi_wp2
            go_roundw
            case rel => exact ⟨k + 1, by omega, by go_num, by rw [HS1.out]; rfl, by rw [HS2.out]; rfl, HB8.out, HX8.out⟩
            case measure => simp [intOf]; omega
      · have h0i : ¬ (k : Int) < (n : Int) := by omega
        have HNK := hid (show (rl p).length ≤ k by have := HN.out; omega)
        have HTOLD := hid (al_told p HNE.out HWD.out k HNK.out)
        obtain ⟨M2, hM2, hm2⟩ := pw_all p _ 0 (Nat.le_refl _)
        have HM2 := hid hM2
        clear hM2
        obtain ⟨b1, hb1⟩ : ∃ b, b = alB 10 p k := ⟨_, rfl⟩
        obtain ⟨b2, hb2⟩ : ∃ b, b = alB 16 p k := ⟨_, rfl⟩
        rw [← hb1, ← hb2] at HTOLD ⊢
        clear hb1 hb2 HX
        have HTW := hid (HTV.out.below HB.out)
        have HVW := hid (tbs_below HVV.out HB.out)
        cases b1 with
        | true =>
          obtain ⟨t2, t1⟩ := HTOLD.out (.inl rfl)
          have HT1 := hid (t1 M2 HM2.out)
          have HT2x := hid t2
          clear t1 t2
          gi_wp2_with fail
          refine ⟨trivial, (CallsIn.inRound lp2 (callsIn_wide.2 (wbounds_any p _ HTW.out (by omega)))).mono ?_⟩
          rintro e w7 ⟨v, rfl, hrow, be⟩
          rw [HT2x.out] at hrow
          obtain ⟨vo, vc, rfl⟩ := own_slice hrow
          have HB7 := hid (HB.out.trans (be.mono HB.out.size))
          clear be hrow
          gi_wp2_with fail
          refine ⟨trivial, (CallsIn.inRound lp2 (callsIn_wide.2 (wcount_any p M2 HM2.out (by omega) _ (HTV.out.below HB7.out) (tbs_below HVV.out HB7.out) (by omega)))).mono ?_⟩
          rintro e w8 ⟨rfl, be⟩
          rw [HT1.out]
          have HB8 := hid (HB7.out.trans (be.mono HB7.out.size))
          clear be
          gi_wp2_with fail
          refine ⟨trivial, (CallsIn.inRound lp2 (callsIn_wide.2 (wkind_any p _ (tbs_below HVV.out HB8.out)))).mono ?_⟩
          rintro e w9 ⟨rfl, be⟩
          have HB9 := hid (HB8.out.trans (be.mono HB8.out.size))
          clear be
          have HKD := hid (wrd_kind p HWD.out)
          obtain ⟨K, hK⟩ : ∃ K, K = wkd (clL p) := ⟨_, rfl⟩
          rw [← hK] at HKD ⊢
          clear hK
          have k3 : ¬ (K : Int) < 3 := by have := HKD.out; omega
          have HQ := hid (HFIN.out _ HB9.out)
          gi_wp2
          exact HQ.out
        | false =>
          cases b2 with
          | true =>
            obtain ⟨t2, t1⟩ := HTOLD.out (.inr rfl)
            have HT1 := hid (t1 M2 HM2.out)
            have HT2x := hid t2
            clear t1 t2
            gi_wp2_with fail
            refine ⟨trivial, (CallsIn.inRound lp2 (callsIn_wide.2 (wbounds_any p _ HTW.out (by omega)))).mono ?_⟩
            rintro e w7 ⟨v, rfl, hrow, be⟩
            rw [HT2x.out] at hrow
            obtain ⟨vo, vc, rfl⟩ := own_slice hrow
            have HB7 := hid (HB.out.trans (be.mono HB.out.size))
            clear be hrow
            gi_wp2_with fail
            refine ⟨trivial, (CallsIn.inRound lp2 (callsIn_wide.2 (wcount_any p M2 HM2.out (by omega) _ (HTV.out.below HB7.out) (tbs_below HVV.out HB7.out) (by omega)))).mono ?_⟩
            rintro e w8 ⟨rfl, be⟩
            rw [HT1.out]
            have HB8 := hid (HB7.out.trans (be.mono HB7.out.size))
            clear be
            gi_wp2_with fail
            refine ⟨trivial, (CallsIn.inRound lp2 (callsIn_wide.2 (wkind_any p _ (tbs_below HVV.out HB8.out)))).mono ?_⟩
            rintro e w9 ⟨rfl, be⟩
            have HB9 := hid (HB8.out.trans (be.mono HB8.out.size))
            clear be
            have HKD := hid (wrd_kind p HWD.out)
            obtain ⟨K, hK⟩ : ∃ K, K = wkd (clL p) := ⟨_, rfl⟩
            rw [← hK] at HKD ⊢
            clear hK
            have k3 : ¬ (K : Int) < 3 := by have := HKD.out; omega
            have HQ := hid (HFIN.out _ HB9.out)
            gi_wp2
            exact HQ.out
          | false =>
            gi_wp2_with fail
            refine ⟨trivial, ?_⟩
            gi_wp2_with fail
            case h_1.isTrue => rename_i b9 h9 h8; cases h9
            case h_1.isFalse => rename_i b9 h9 h8; cases h9
            refine ⟨trivial, ?_⟩
            gi_wp2_with fail
            refine ⟨trivial, (CallsIn.inRound lp2 (callsIn_wide.2 (wkind_any p _ (tbs_below HVV.out HB.out)))).mono ?_⟩
            rintro e w9 ⟨rfl, be⟩
            have HB9 := hid (HB.out.trans (be.mono HB.out.size))
            clear be
            have HKD := hid (wrd_kind p HWD.out)
            obtain ⟨K, hK⟩ : ∃ K, K = wkd (clL p) := ⟨_, rfl⟩
            rw [← hK] at HKD ⊢
            clear hK
            have k3 : ¬ (K : Int) < 3 := by have := HKD.out; omega
            have HQ := hid (HFIN.out _ HB9.out)
            gi_wp2
            exact HQ.out
  case done =>
    rintro D xs V hD rfl ⟨_, hbe⟩ hK
    have HVV := hid (tbs_below HV2.out hbe)
    have b0 : Boxed V w.heap.size 4 (.bool false) := (hbe.block _ a2.lt).trans a2
    have HBV := hid (hB2.trans (hbe.mono hB2.size))
    gi_wp2_with fail
    refine ⟨trivial, (callsIn_wide.2 (lives12 V HVV.out)).mono ?_⟩
    rintro e w5 ⟨rfl, be⟩
    have b4 : Boxed w5 w.heap.size 4 (.bool false) := (be.block _ b0.lt).trans b0
    have c5 := b4.cell
    have z5 := b4.frozen
    have hK5 := (be.block _ (Array.getElem?_eq_some_iff.1 hK).1).trans hK
    have HR := hid (b4.set (.bool true))
    have HBR := hid (show Below w.heap.size w (w5.setCell ⟨w.heap.size, 0, none⟩ (.bool true)) from (HBV.out.trans (be.mono HBV.out.size)).setCell (Nat.le_refl _) _)
    have hK6 : (w5.setCell ⟨w.heap.size, 0, none⟩ (.bool true)).heap[D]? = some (.deferred (some [])) := (Below.heap_setCell _ _ _ D (show D ≠ w.heap.size by omega)).trans hK5
    clear be b4 b0
    gi_wp2
    refine ⟨by simp, .inl ⟨_, _, rfl, run_takeDeferred hK6, ?_⟩⟩
    exact ⟨_, results_bool rfl _ _ _ _ rfl ((Own.from (boxed_own w.heap.size 4 (fun _ : Unit => .bool true)) D).putObj (s := ()) _ HR.out (Nat.le_refl _) hK6 rfl), rfl, HBR.out.trans (belowK_b (w := w) (Nat.le_refl _) _ D _ _ (by omega) hK6 rfl rfl)⟩
  case stop =>
    rintro D c pre V _ _ h _
    exact h.elim
theorem alone_main (l : List UInt8) (w : World) (ht : TbW w) (hv : Ev.Tbs tabs w) :
    Calls Tryd.prog 6 #[.string ⟨l.toArray⟩] w fun e W' => e = .returned (.bool true) ∧ Below w.heap.size w W' := callsIn_wide.1 (alone_in l w ht hv)
end Go.Proofs.YtkophiklkgefnaaDoor.Wd
