/- The contract of Kind (package line) at an edge within a text. -/
import Derived.Test.YtkophiklkgefnaaDoorLnFun5Joint
import Derived.Test.YtkophiklkgefnaaDoorREdgeJoint
import Derived.Test.YtkophiklkgefnaaDoorTrMathJoint
import Derived.Test.YtkophiklkgefnaaDoorLnEachJoint
import Derived.Test.YtkophiklkgefnaaDoorRngQJoint
import Derived.Test.YtkophiklkgefnaaDoorLiveRun
namespace Go.Proofs.YtkophiklkgefnaaDoor.Ln
open Go.RowKit

/-- What a place within a text is. -/
def lnk (s : List UInt8) (p : Nat) : Int := if lncut s 0 p = false then 0 else if lnends (lnlast (s.take p)) then 2 else 1
theorem isE_plc (s : List UInt8) (k : Nat) (h : k ≤ (rl s).length) : isE s (plc s k) = true := Wt.isE_pos s k h
theorem plc_lt (s : List UInt8) (k : Nat) (h : k < (rl s).length) : plc s k < s.length := Wt.pos_end s k h
theorem plc_pos (s : List UInt8) (k : Nat) (h0 : 0 < k) (h : k ≤ (rl s).length) : 0 < plc s k := by
  have h1 := Wt.pos_mono s k 0 (by omega)
  rw [Nat.zero_add] at h1
  have h2 : plc s k = Wt.pos s k := rfl
  have h3 : Wt.pos s 0 = 0 := rfl
  omega
set_option maxHeartbeats 1000000 in
set_option maxRecDepth 100000 in
theorem kind_edge (s : List UInt8) (p : Nat) (w : World) (ht : Tb w) (hl : s.length ≤ 1000000000) (h0 : 0 < p) (h1 : p < s.length) (he : isE s (p : Int) = true) :
    Calls Tryd.prog 30 #[.string ⟨s.toArray⟩, .int .i64 (p : Int)] w fun e w' => e = .returned (.int .i64 (lnk s p)) ∧ Below w.heap.size w w' := by
  have HT := hid ht
  have HE := hid he
  clear ht he
  have h0' : ¬ (p : Int) ≤ 0 := by omega
  have h1' : (p : Int) < (s.length : Int) := by omega
  have hne : ¬ p = s.length := by omega
  go_enter Tryd.func30, Tryd.ntmps30
  go_wp2_with fail
  refine (is_any s p w (by omega) HT.out.tabs HT.out.two).mono ?_
  rintro e w1 ⟨rfl, be⟩
  rw [HE.out]
  have HB1 := hid be
  clear be
  go_wp2_with fail
  refine (cut_any s 0 p w1 (HT.out.below HB1.out) hl (by omega) (by omega)).mono ?_
  rintro e w2 ⟨rfl, be⟩
  have HB2 := hid (HB1.out.trans (be.mono HB1.out.size))
  clear be
  obtain ⟨b, hb⟩ : ∃ b, b = lncut s 0 p := ⟨_, rfl⟩
  have HV := hid (show lnk s p = if b = false then 0 else if lnends (lnlast (s.take p)) then 2 else 1 by rw [hb]; rfl)
  rw [← hb]
  clear hb
  cases b with
  | false =>
    go_wp2
    go_ret
    exact ⟨by rw [HV.out]; rfl, HB2.out⟩
  | true =>
    go_wp2_with fail
    refine (isMust_any s p w2 (HT.out.below HB2.out) hl (by omega)).mono ?_
    rintro e w3 ⟨rfl, be⟩
    have HB3 := hid (HB2.out.trans (be.mono HB2.out.size))
    clear be
    have e1 : lnmust s p = lnends (lnlast (s.take p)) := by unfold lnmust; rw [decide_eq_false hne, Bool.false_or]
    rw [e1]
    clear e1
    obtain ⟨c, hc⟩ : ∃ c, c = lnends (lnlast (s.take p)) := ⟨_, rfl⟩
    rw [← hc] at HV ⊢
    clear hc
    cases c with
    | false =>
      go_wp2
      go_ret
      exact ⟨by rw [HV.out]; rfl, HB3.out⟩
    | true =>
      go_wp2
      go_ret
      exact ⟨by rw [HV.out]; rfl, HB3.out⟩
theorem kind_any (s : List UInt8) (k : Nat) (w : World) (ht : Tb w) (hl : s.length ≤ 1000000000) (h0 : 0 < k) (h1 : k < (rl s).length) :
    Calls Tryd.prog 30 #[.string ⟨s.toArray⟩, .int .i64 (plc s k : Int)] w fun e w' => e = .returned (.int .i64 (lnk s (plc s k))) ∧ Below w.heap.size w w' :=
  kind_edge s _ w ht hl (plc_pos s k h0 (by omega)) (plc_lt s k h1) (isE_plc s k (by omega))
end Go.Proofs.YtkophiklkgefnaaDoor.Ln
/- What a place within a text is, by the classes of the runes beside it: where no line may end, and where it must. -/
namespace Go.Proofs.YtkophiklkgefnaaDoor.Ln
open Go.RowKit

/-- Behind a zero width space, and blanks. -/
def zwf (s : List UInt8) (k : Nat) : Bool := decide (lnlast (wthL [4] (s.take (plc s k))) = 5)
theorem zwf_zero (s : List UInt8) : zwf s 0 = false := rfl
theorem last_at (s : List UInt8) (k : Nat) (x : Nat × Nat) (h : (rl s)[k]? = some x) : lnlast (s.take (plc s (k + 1))) = lncls x.1 := by
  obtain ⟨h1, h2, _⟩ := take_last s k x h
  unfold lnlast
  rw [if_neg h1, h2]
theorem first_at (s : List UInt8) (k : Nat) (x : Nat × Nat) (h : (rl s)[k]? = some x) : lnfirst (s.drop (plc s k)) = lncls x.1 := by
  obtain ⟨hk, hx⟩ := List.getElem?_eq_some_iff.1 h
  have h1 := rl_drop s k (by omega)
  have hne : s.drop (plc s k) ≠ [] := fun e => by
    rw [e, rl_nil, List.drop_eq_getElem_cons hk] at h1
    cases h1
  rw [rl_cons _ hne, List.drop_eq_getElem_cons hk, hx] at h1
  have h2 : dec (s.drop (plc s k)) = x := (List.cons.inj h1).1
  unfold lnfirst
  rw [if_neg hne, h2]
theorem zwf_step (s : List UInt8) (k : Nat) (x : Nat × Nat) (h : (rl s)[k]? = some x) : zwf s (k + 1) = if lncls x.1 = 5 then true else if lncls x.1 = 4 then zwf s k else false := by
  obtain ⟨h1, h2, h3⟩ := take_last s k x h
  have h4 := last_at s k x h
  unfold zwf
  by_cases c4 : lncls x.1 = 4
  · rw [wthL_yes _ _ h1 (by rw [h4, c4]; decide), h3, if_neg (by omega), if_pos c4]
  · rw [wthL_no _ _ (by rw [h4]; unfold amg; simp [c4]), h4, if_neg c4]
    by_cases c5 : lncls x.1 = 5
    · rw [if_pos c5, decide_eq_true c5]
    · rw [if_neg c5, decide_eq_false c5]
theorem held_yes (a b : Int) (h : amg [6, 11, 10, 13, 14, 15] b = true) : lnheld a b = true := by unfold lnheld; rw [if_pos h]
section
variable (s : List UInt8) (p : Nat) (a b : Int) (ha : lnlast (s.take p) = a) (hb : lnfirst (s.drop p) = b)
include ha hb
theorem nv_crlf (h1 : a = 2) (h2 : b = 3) : lnk s p = 0 := by
  have h : lncut s 0 p = false := by unfold lncut; rw [ha, hb, if_pos ⟨h1, h2⟩]
  unfold lnk
  rw [if_pos h]
theorem nv_end (h1 : lnends a = true) (h2 : ¬ (a = 2 ∧ b = 3)) : lnk s p = 2 := by
  unfold lnk lncut
  rw [ha, hb, if_neg h2, if_pos h1]
  simp [h1]
omit hb in
theorem nv_not (h1 : lnends a = false) : lnk s p = 0 ∨ lnk s p = 1 := by
  unfold lnk
  rw [ha, h1]
  split
  · exact .inl rfl
  · exact .inr rfl
theorem nv_zero (h1 : lnends a = false) (h : lnends b = false → amg [4, 5] b = false → lnlast (wthL [4] (s.take p)) ≠ 5 ∧ (lnheld (lnbase (wthL [4] (s.take p))) b = true ∨ (a ≠ 4 ∧ (b = 8 ∨ lnjoin s 0 p = true)))) : lnk s p = 0 := by
  have h3 : ¬ (a = 2 ∧ b = 3) := fun e => by rw [e.1] at h1; cases h1
  unfold lnk lncut
  rw [ha, hb, if_neg h3, h1]
  by_cases hB : lnends b = true
  · rw [hB]; rfl
  · have hB' : lnends b = false := by simpa using hB
    rw [hB']
    by_cases hC : amg [4, 5] b = true
    · rw [hC]; rfl
    · have hC' : amg [4, 5] b = false := by simpa using hC
      rw [hC']
      obtain ⟨h5, h6⟩ := h hB' hC'
      simp only [Bool.false_eq_true, if_false]
      rw [if_neg h5]
      rcases h6 with h6 | ⟨h6, h7⟩
      · rw [h6]
        simp
      · rw [if_neg h6]
        rcases h7 with h7 | h7
        · rw [h7]; simp
        · rw [h7]; simp
theorem nv_blank (h1 : lnends a = false) (h2 : lnends b = true ∨ amg [4, 5] b = true) : lnk s p = 0 :=
  nv_zero s p a b ha hb h1 fun h5 h6 => by
    rcases h2 with h2 | h2
    · rw [h5] at h2; cases h2
    · rw [h6] at h2; cases h2
theorem nv_held (h1 : lnends a = false) (h2 : amg [6, 11, 10, 13, 14, 15] b = true) (hz : lnlast (wthL [4] (s.take p)) ≠ 5) : lnk s p = 0 :=
  nv_zero s p a b ha hb h1 fun _ _ => ⟨hz, .inl (held_yes _ _ h2)⟩
theorem nv_joins (h1 : lnends a = false) (h4 : a ≠ 4) (h5 : a ≠ 5) (h8 : a ≠ 8) (h : lnglued a b = true ∨ lntog a b = true) : lnk s p = 0 :=
  nv_zero s p a b ha hb h1 fun _ _ => by
    have e1 : lnbase (s.take p) = a := by
      unfold lnbase
      rw [wthL_no _ _ (by rw [ha]; unfold amg; simp [h8]), ha]
    refine ⟨by rw [wthL_no _ _ (by rw [ha]; unfold amg; simp [h4]), ha]; exact h5, .inr ⟨h4, .inr ?_⟩⟩
    unfold lnjoin
    rw [e1, hb]
    rcases h with h | h
    · rw [if_pos h]
    · split
      · rfl
      · split
        · rfl
        · first | rfl | rw [if_pos h]
end
end Go.Proofs.YtkophiklkgefnaaDoor.Ln
/- The iterators of Each and of Lines (package line), as such that others may range over. -/
namespace Go.Proofs.YtkophiklkgefnaaDoor.Ln
open Go.RowKit Go.Shelf
attribute [local go_sem] Oper.semAt_some

/-- The types of what a body may write: numbers. -/
def kt (t : Nat) : Bool := !(t == 3)
/-- What a body leaves as it was: the tables, and all cells of other types. -/
structure Kt (X Y : World) : Prop where
  size : X.heap.size ≤ Y.heap.size
  low : ∀ k, k < 2 → Y.heap[k]? = X.heap[k]?
  cells : ∀ (k : Nat) (c : Array Value) (t : Nat) (fz : Nat × Nat), X.heap[k]? = some (.cells c t fz) → kt t = true → Y.heap[k]? = some (.cells c t fz)
theorem Kt_t {A B C : World} (h : Kt A B) (k : Kt B C) : Kt A C :=
  ⟨Nat.le_trans h.size k.size, fun i hi => (k.low i hi).trans (h.low i hi), fun i c t fz h1 h2 => k.cells i c t fz (h.cells i c t fz h1 h2) h2⟩
theorem Kt_b {w : World} (hw : 2 ≤ w.heap.size) (W : World) (l : Nat) (o o' : Obj) (hl : w.heap.size ≤ l) (h : W.heap[l]? = some o) (hc : o.isCells = false) (_ : o.isWalk = false) : Kt W (W.putObj l o') :=
  ⟨by simp, fun k hk => World.putObj_heap_other (by omega), fun k c t fz h1 _ => (World.putObj_heap_other (fun e => by subst e; rw [h] at h1; cases h1; cases hc)).trans h1⟩
theorem Kt.refl (X : World) : Kt X X := ⟨Nat.le_refl _, fun _ _ => rfl, fun _ _ _ _ h _ => h⟩
theorem Kt.below {X Y : World} (h : Below X.heap.size X Y) (h2 : 2 ≤ X.heap.size) : Kt X Y :=
  ⟨h.size, fun k hk => h.block k (by omega), fun k c t fz h1 _ => (h.block k (Array.getElem?_eq_some_iff.1 h1).1).trans h1⟩
theorem EaAt.kt {Bs : Nat} {l : List UInt8} {X Y : World} (h : EaAt Bs l X) (k : Kt X Y) : EaAt Bs l Y := h.keeps k.size fun i hi => by
  rcases hi with rfl | hi
  · have h1 := h.bs
    unfold Boxed at h1
    rw [h1]; exact k.cells _ _ _ _ h1 rfl
  · exact k.low i hi
theorem eaAt_g {β : Type} (B Bs : Nat) (l : List UInt8) (hB : 2 ≤ B) : OwnFrom B (fun (_ : β) W => EaAt Bs l W) := fun _ A C row h hg hr => by
  refine h.keeps hg.size fun k hk => hg.block k (h.lt k hk) fun e => ?_
  obtain ⟨hle, o, ho, hc⟩ := hr k e.symm
  rcases hk with rfl | hk
  · have := h.bs; unfold Boxed at this; rw [this] at ho; cases ho; cases hc
  · omega
/-- A store into a cell that a body may write. -/
theorem Kt.set {W : World} {B : Nat} {v0 : Value} (h : Boxed W B 3 v0) (h2 : 2 ≤ B) (v : Value) : Kt W (W.setCell ⟨B, 0, none⟩ v) :=
  ⟨(KeepsWalks.setCell W _ v).size, fun k hk => Below.heap_setCell _ _ _ k (by show k ≠ B; omega), fun k c' t' fz h1 h3 => by
    refine (Below.heap_setCell _ _ _ k (fun e => ?_)).trans h1
    have e' : k = B := e
    subst e'
    unfold Boxed at h
    rw [h] at h1
    cases h1
    cases h3⟩
/-- What a body leaves as it was: the tables, all cells of most types, and all that was laid from N on. -/
structure Kn (N : Nat) (X Y : World) : Prop where
  kt : Kt X Y
  rng : ∀ k, N ≤ k → k < X.heap.size → Y.heap[k]? = X.heap[k]?
theorem Kn_t (N : Nat) {A B C : World} (h : Kn N A B) (k : Kn N B C) : Kn N A C := ⟨Kt_t h.kt k.kt, fun i h1 h2 => (k.rng i h1 (Nat.lt_of_lt_of_le h2 h.kt.size)).trans (h.rng i h1 h2)⟩
theorem Kn_b {w : World} (hw : 2 ≤ w.heap.size) (W : World) (l : Nat) (o o' : Obj) (hl : w.heap.size ≤ l) (h : W.heap[l]? = some o) (hc : o.isCells = false) (hk : o.isWalk = false) : Kn (l + 1) W (W.putObj l o') :=
  ⟨Kt_b hw W l o o' hl h hc hk, fun k h1 _ => World.putObj_heap_other (by omega)⟩
theorem Kn.refl (N : Nat) (X : World) : Kn N X X := ⟨Kt.refl X, fun _ _ _ => rfl⟩
theorem Kn.below {N : Nat} {X Y : World} (h : Below X.heap.size X Y) (h2 : 2 ≤ X.heap.size) : Kn N X Y := ⟨Kt.below h h2, fun k _ h1 => h.block k h1⟩
/-- The lines that chances make, from a place on; where the last of them ends. -/
def lsF : Int → List (Int × Bool) → List (Int × Int)
  | _, [] => []
  | f, x :: C => if x.2 = true then (f, x.1) :: lsF x.1 C else lsF f C
def lsM : Int → List (Int × Bool) → Int
  | f, [] => f
  | f, x :: C => if x.2 = true then lsM x.1 C else lsM f C
theorem lsF_app : ∀ (A B : List (Int × Bool)) (f : Int), lsF f (A ++ B) = lsF f A ++ lsF (lsM f A) B
  | [], _, _ => rfl
  | x :: A, B, f => by
    rw [List.cons_append, lsF, lsF, lsM]
    split
    · rw [lsF_app A B x.1]; rfl
    · exact lsF_app A B f
theorem lsM_app : ∀ (A B : List (Int × Bool)) (f : Int), lsM f (A ++ B) = lsM (lsM f A) B
  | [], _, _ => rfl
  | x :: A, B, f => by
    rw [List.cons_append, lsM, lsM]
    split
    · exact lsM_app A B x.1
    · exact lsM_app A B f
def encI (x : Int × Int) : Array Value := #[.int .i64 x.1, .int .i64 x.2]
/-- At the wide fence a round's depth has no part. -/
theorem round_wide {m m' lp l : Nat} {f : FuncId} {tmps : Array Value} {assign body : Code} {w : World} {R : Ending → World → Prop} (h : RoundIn Fence.wide m Tryd.prog l f tmps assign body w R) : RoundIn (Fence.wide.inRound lp) m' Tryd.prog l f tmps assign body w R :=
  ⟨trivial, fun c cs _ => h.2 c cs (room_wide _)⟩
set_option maxHeartbeats 2000000 in
theorem leach_p (n : Nat) (hn : 1 ≤ n) (Bs : Nat) (l : List UInt8) (w : World) (hR : EaAt Bs l w) (hl : l.length ≤ 1000000000) :
    SeqP Fence.wide n Tryd.prog 76 #[.pointer (some ⟨Bs, 0, none⟩)] encC (fun _ => Kt) (fun xs => xs = chs l 0) (fun pre => pre <+: chs l 0) w := fun lp J Jx W hbW hJ hJx hY h0 => by
  have HRW := hid (hR.below hbW)
  have hcW := HRW.out.bs.cell
  clear hR hbW
  refine callsIn_of_wp Tryd.func76 rfl trivial ?_ rfl
  simp only [Tryd.ntmps76, List.size_toArray, List.length_cons, List.length_nil, Nat.reduceAdd, Nat.reduceSub, Array.replicate_succ, Array.replicate_zero, List.push_toArray, List.append_toArray, List.nil_append, List.cons_append]
  gi_wp2
  gi_loopw [3] (fun v wr => ∃ (p : Nat) (pre : List (Int × Bool)), v = .int .i64 p ∧ p ≤ l.length ∧ Hid (chs l 0 = pre ++ chs l p) ∧ Hid (J pre wr) ∧ Hid (EaAt Bs l wr)) (fun v _ => l.length - (intOf v).toNat)
  case atStart => exact ⟨0, [], rfl, Nat.zero_le _, by simp [Hid], h0, HRW⟩
  case round =>
    obtain ⟨p, pre, rfl, hp, HP, HJ, HR⟩ := hrel
    clear hcW
    have hc := HR.out.bs.cell
    by_cases hlt : p < l.length
    · have hlti : (p : Int) < (l.length : Int) := by omega
      obtain ⟨hb1, hb2⟩ := onw_bd l p hlt
      have HST := hid (chs_step l p hlt)
      gi_wp2_with fail
      refine ⟨trivial, (callsIn_wide.2 (onward_any l p p wr HR.out.tb hl hp (Nat.le_refl _))).mono ?_⟩
      rintro e w1 ⟨rfl, be1⟩
      have HJ1 := hid (hJ pre wr w1 none HJ.out (grown_below be1) (fun r e => by cases e))
      have HR1 := hid (HR.out.below be1)
      obtain ⟨q, hq⟩ : ∃ q, q = onw l p p := ⟨_, rfl⟩
      rw [← hq] at hb1 hb2 HST
      rw [← hq]
      clear be1 hq HJ HR hc
      have hc1 := HR1.out.bs.cell
      gi_wp2_with fail
      refine ⟨trivial, (callsIn_wide.2 (isMust_any l q w1 HR1.out.tb hl hb2)).mono ?_⟩
      rintro e w2 ⟨rfl, be2⟩
      have HJ2 := hid (hJ pre w1 w2 none HJ1.out (grown_below be2) (fun r e => by cases e))
      have HR2 := hid (HR1.out.below be2)
      obtain ⟨m, hm⟩ : ∃ m, m = lnmust l q := ⟨_, rfl⟩
      rw [← hm] at HST
      rw [← hm]
      clear be2 hm HJ1 HR1 hc1
      have HP2 := hid (show chs l 0 = (pre ++ [((q : Int), m)]) ++ chs l q by rw [HP.out, HST.out, List.append_assoc]; rfl)
      obtain ⟨fn, tmps, assign, body, hy, hRR⟩ := hY pre ((q : Int), m) w2 HJ2.out ⟨chs l q, HP2.out.symm⟩
      dsimp only [encC] at hy
      clear HST hY
      gi_wp2
      refine hRR.mono ?_
      rintro e W3 ⟨_, (⟨rfl, hJ3, hk3⟩ | ⟨rfl, hJx3⟩)⟩
      · have HJ3 := hid hJ3
        have HR3 := hid (HR2.out.kt hk3)
        clear hJ3 hk3
        gi_wp2
        go_roundw
        case rel => exact ⟨q, pre ++ [((q : Int), m)], rfl, hb2, HP2, HJ3, HR3⟩
        case measure => simp [intOf]; omega
      · have HJX := hid hJx3
        clear hJx3
        gi_wp2
        refine bodyPost_ret (results_none rfl _ _ _) rfl ?_
        exact ⟨⟨_, rfl⟩, .inr ⟨pre ++ [((q : Int), m)], ⟨chs l q, by rw [HP2.out]⟩, HJX.out⟩⟩
    · have hlti : ¬ (p : Int) < (l.length : Int) := by omega
      have HE := hid (show chs l 0 = pre by rw [HP.out, chs_end l p hlt, List.append_nil])
      gi_wp2
      go_end0
      exact ⟨⟨_, rfl⟩, .inl (by rw [HE.out]; exact HJ.out)⟩
theorem lines_mk (l : List UInt8) (w : World) :
    Calls Tryd.prog 27 #[.string ⟨l.toArray⟩] w fun e w' => e = .returned (.func (.func 50) #[] #[.pointer (some ⟨w.heap.size, 0, none⟩)]) ∧ w' = w.alloc (.cells #[.string ⟨l.toArray⟩] 9) := by
  go_enter Tryd.func27, Tryd.ntmps27
  go_wp2
  go_ret
  exact ⟨rfl, rfl⟩
set_option maxHeartbeats 4000000 in
set_option maxRecDepth 100000 in
theorem lines_q (n Bs : Nat) (l : List UInt8) (w : World) (hn : 4 ≤ n) (hR : EaAt Bs l w) (hl : l.length ≤ 1000000) :
    SeqQ Fence.wide n Tryd.prog 50 #[.pointer (some ⟨Bs, 0, none⟩)] encI Kn (fun xs => xs = lsF 0 (chs l 0)) (fun pre => pre <+: lsF 0 (chs l 0)) w := fun lp J Jx W hbW hJ hJx hY h0 => by
  have HRW := hid (hR.below hbW)
  have h2 := HRW.out.tb.two
  have hBW := HRW.out.bs.lt
  clear hR hbW
  have hn1 : 1 ≤ n := by omega
  obtain ⟨W3, hW3⟩ : ∃ W3, W3 = (W.alloc (.cells #[.func (.yield lp) #[] #[]] 68)).alloc (.cells #[.int .i64 0] 3) := ⟨_, rfl⟩
  have hB3 : Below W.heap.size W W3 := by rw [hW3]; exact ((Below.refl _ _).alloc (Nat.le_refl _) _).alloc (by simp) _
  have HR3 := hid (HRW.out.below hB3)
  have hs3 : W3.heap.size = W.heap.size + 2 := by rw [hW3]; simp
  have b0 : Boxed W3 W.heap.size 68 (.func (.yield lp) #[] #[]) := by rw [hW3]; exact (Boxed.new W _ _).alloc _
  have b1 : Boxed W3 (W.heap.size + 1) 3 (.int .i64 0) := by
    have := Boxed.new (W.alloc (.cells #[.func (.yield lp) #[] #[]] 68)) 3 (.int .i64 0)
    rw [World.size_alloc] at this
    rw [hW3]; exact this
  have hc := HR3.out.bs.cell
  rw [hW3] at hc
  refine callsIn_of_wp_marks Tryd.func50 rfl trivial ?_ rfl
  simp only [Tryd.ntmps50, List.size_toArray, List.length_cons, List.length_nil, Nat.reduceAdd, Nat.reduceSub, Array.replicate_succ, Array.replicate_zero, List.push_toArray, List.append_toArray, List.nil_append, List.cons_append]
  gi_wp2_with fail
  rw [← hW3]
  refine ⟨trivial, (callsIn_wide.2 (leach_any l W3)).mono ?_⟩
  rintro e w' ⟨rfl, rfl⟩
  clear hc hW3
  have hB4 : Below W3.heap.size W3 (W3.alloc (.cells #[.string ⟨l.toArray⟩] 9)) := (Below.refl _ _).alloc (Nat.le_refl _) _
  have b3 := Boxed.new W3 9 (.string ⟨l.toArray⟩)
  obtain ⟨w4, hw4⟩ : ∃ w4, w4 = W3.alloc (.cells #[.string ⟨l.toArray⟩] 9) := ⟨_, rfl⟩
  have hs4 : w4.heap.size = W.heap.size + 3 := by rw [hw4]; simp; omega
  rw [← hw4] at hB4 b3 ⊢
  rw [hs3] at b3 ⊢
  clear hw4
  obtain ⟨A, hA⟩ : ∃ A, A = W.heap.size := ⟨_, rfl⟩
  have HJ4 := hid (show J [] w4 from hJ [] W _ none h0 (grown_below (hB3.trans (hB4.mono (by omega)))) (fun r e => by cases e))
  have d0 : Boxed w4 W.heap.size 68 (.func (.yield lp) #[] #[]) := (hB4.block _ b0.lt).trans b0
  have d1 : Boxed w4 (W.heap.size + 1) 3 (.int .i64 0) := (hB4.block _ b1.lt).trans b1
  have HWA := hid (show EaAt (W.heap.size + 2) l w4 from ⟨b3, (HR3.out.below hB4).tb⟩)
  rw [← hA] at d0 d1 hs4 h2 hBW HWA ⊢
  have HD := hid (And.intro d0 d1)
  have HJo := hid (show OwnAll A J by rw [hA]; exact hJ)
  have HJx := hid (show OwnAll A Jx by rw [hA]; exact hJx)
  have HY := hid (show ∀ pre x W1, J pre W1 → pre ++ [x] <+: lsF 0 (chs l 0) → YieldAt Fence.wide (n - 1) Tryd.prog lp (encI x) W1 fun e W' => KeepsFrom A W1 W' ∧ ((e = .returned (.bool true) ∧ J (pre ++ [x]) W' ∧ Kn A W1 W') ∨ (e = .returned (.bool false) ∧ Jx (pre ++ [x]) W')) by rw [hA]; exact hY)
  clear b0 b1 b3 d0 d1 hB3 hB4 hs3 HR3 h0 hA hY hJ hJx
  gi_wp2
  refine rangeP rfl hn1 rfl trivial (enters_of Tryd.func76 (by kernel_rfl) rfl) (leach_p (n - 1) (by omega) (A + 2) l w4 HWA.out (by omega)) (fun _ => Kt_t) (Kt_b (by omega)) (Below.refl _ _) (fun _ => rfl)
    (fun pre V => ((J (lsF 0 pre) V ∧ EaAt (A + 2) l V) ∧ Boxed V A 68 (.func (.yield lp) #[] #[])) ∧ Boxed V (A + 1) 3 (.int .i64 (lsM 0 pre)))
    (fun c pre V => c = .ret ∧ ∃ ls, ls <+: lsF 0 (chs l 0) ∧ Jx ls V) ?own ?ownx
    ⟨⟨⟨HJ4.out, HWA.out⟩, HD.out.1⟩, HD.out.2⟩
    (fun x a' _ => a' = { tmps := #[.func (.yield lp) #[] #[], .pointer (some ⟨Bs, 0, none⟩), .pointer (some ⟨A, 0, none⟩), .pointer (some ⟨A + 1, 0, none⟩), .int .i64 x.1, .bool x.2, .string ⟨l.toArray⟩, .func (.func 76) #[] #[.pointer (some ⟨A + 2, 0, none⟩)], .int .i64 x.1, .bool x.2, undef, undef, undef, undef, undef, undef, undef, undef], defers := [] })
    (fun _ _ _ _ _ _ h _ _ => h) ?assign ?body ?done ?stop
  case own => exact OwnFrom.and (OwnFrom.and (OwnFrom.and (fun s P C row h hg hr => own_le HJo.out.from (by omega) (lsF 0 s) P C row h hg hr) (eaAt_g _ _ l (by omega))) (Own.from (boxed_own _ _ _) _)) (Own.from (boxed_own (A + 1) 3 (fun s : List (Int × Bool) => .int .i64 (lsM 0 s))) _)
  case ownx =>
    rintro c pre P C row ⟨e, ls, k0, k1⟩ hg hr
    exact ⟨e, ls, k0, own_le HJx.out.from (by omega) _ P C row k1 hg hr⟩
  case assign =>
    intro lp2 pre x V K _ hI hK
    dsimp only [encC]
    gi_wp2
    exact hK _ _ (KeepsFrom.refl _ _) (Kt.refl _) hI rfl
  case body =>
    rintro lp2 pre ⟨xa, xm⟩ a' V hlp _ ⟨⟨⟨kj, ke⟩, k0⟩, k1⟩ rfl hsp
    have c0 := k0.cell
    have c1 := k1.cell
    have HI := hid (And.intro ke (And.intro k0 k1))
    have HJV := hid kj
    have HSP := hid hsp
    clear ke k0 k1 kj hsp
    cases xm with
    | false =>
      have HQ := hid (show KeepsFrom w4.heap.size V V ∧ Kt V V ∧ ((J (lsF 0 (pre ++ [(xa, false)])) V ∧ EaAt (A + 2) l V) ∧ Boxed V A 68 (.func (.yield lp) #[] #[])) ∧ Boxed V (A + 1) 3 (.int .i64 (lsM 0 (pre ++ [(xa, false)]))) from
        ⟨KeepsFrom.refl _ _, Kt.refl _, ⟨⟨by rw [lsF_app]; simpa [lsF] using HJV.out, HI.out.1⟩, HI.out.2.1⟩, by rw [lsM_app]; simpa [lsM] using HI.out.2.2⟩)
      gi_wp2
      exact HQ.out
    | true =>
      have HF1 := hid (show lsF 0 (pre ++ [(xa, true)]) = lsF 0 pre ++ [(lsM 0 pre, xa)] by rw [lsF_app]; rfl)
      have HM1 := hid (show lsM 0 (pre ++ [(xa, true)]) = xa by rw [lsM_app]; rfl)
      have HPX := hid (show lsF 0 pre ++ [(lsM 0 pre, xa)] <+: lsF 0 (chs l 0) by
        obtain ⟨R, hR⟩ := HSP.out
        rw [← hR, lsF_app, HF1.out]
        exact ⟨_, rfl⟩)
      obtain ⟨fm, hfm⟩ : ∃ f, f = lsM 0 pre := ⟨_, rfl⟩
      obtain ⟨fn, tmps, assign, body, hy, hRR⟩ := HY.out (lsF 0 pre) (lsM 0 pre, xa) V HJV.out HPX.out
      dsimp only [encI] at hy
      rw [← hfm] at hy c1 HI hRR HF1 HPX
      clear hfm
      gi_wp2
      refine ⟨fun _ => by omega, (round_wide hRR).mono ?_⟩
      rintro e V3 ⟨hkf, (⟨rfl, hJ3, hk3⟩ | ⟨rfl, hJx3⟩)⟩
      · have e0 : Boxed V3 A 68 (.func (.yield lp) #[] #[]) := (hk3.rng A (Nat.le_refl _) HI.out.2.1.lt).trans HI.out.2.1
        have e1 : Boxed V3 (A + 1) 3 (.int .i64 fm) := (hk3.rng (A + 1) (Nat.le_succ _) HI.out.2.2.lt).trans HI.out.2.2
        have c3 := e1.cell
        have f3 := e1.frozen
        have hA4 : A + 1 < w4.heap.size := by omega
        have HQ := hid (show KeepsFrom w4.heap.size V (V3.setCell ⟨A + 1, 0, none⟩ (.int .i64 xa)) ∧ Kt V (V3.setCell ⟨A + 1, 0, none⟩ (.int .i64 xa)) ∧ ((J (lsF 0 (pre ++ [(xa, true)])) (V3.setCell ⟨A + 1, 0, none⟩ (.int .i64 xa)) ∧ EaAt (A + 2) l (V3.setCell ⟨A + 1, 0, none⟩ (.int .i64 xa))) ∧ Boxed (V3.setCell ⟨A + 1, 0, none⟩ (.int .i64 xa)) A 68 (.func (.yield lp) #[] #[])) ∧ Boxed (V3.setCell ⟨A + 1, 0, none⟩ (.int .i64 xa)) (A + 1) 3 (.int .i64 (lsM 0 (pre ++ [(xa, true)]))) from by
          have q7 := Kt.set e1 (by omega) (.int .i64 xa)
          refine ⟨(keeps_le hkf (by omega)).trans (KeepsFrom.of_grownBy (grownBy_setCell' _ _ _) (fun r e => by cases e; omega)), Kt_t hk3.kt q7, ⟨⟨?_, (HI.out.1.kt hk3.kt).kt q7⟩, e0.other (by omega) _⟩, by rw [HM1.out]; exact e1.set _⟩
          rw [HF1.out]
          exact HJo.out.setCell _ hJ3 (by omega))
        clear hkf hJ3 hk3 e0 e1
        gi_wp2
        exact HQ.out
      · have HQ := hid (show KeepsFrom w4.heap.size V V3 ∧ ∃ ls, ls <+: lsF 0 (chs l 0) ∧ Jx ls V3 from ⟨keeps_le hkf (by omega), _, HPX.out, hJx3⟩)
        clear hkf hJx3
        gi_wp2
        exact ⟨HQ.out.1, rfl, HQ.out.2⟩
  case done =>
    rintro D xs V hD rfl ⟨⟨⟨hj, _⟩, _⟩, _⟩ hK
    gi_wp2
    refine ⟨by simp, .inl ⟨_, _, rfl, run_takeDeferred hK, ?_⟩⟩
    exact ⟨_, results_none rfl _ _ _, ⟨_, rfl⟩, .inl ⟨_, rfl, HJo.out.putObj _ hj (by omega) hK rfl⟩⟩
  case stop =>
    rintro D c pre V hD hp ⟨rfl, ls, hls, hj⟩ hK
    gi_wp2
    refine ⟨by simp, .inl ⟨_, _, rfl, run_takeDeferred hK, ?_⟩⟩
    exact ⟨_, results_none rfl _ _ _, ⟨_, rfl⟩, .inr ⟨ls, hls, HJx.out.putObj _ hj (by omega) hK rfl⟩⟩
end Go.Proofs.YtkophiklkgefnaaDoor.Ln
/- Lines: they lie one behind the other, and a line's end stands at the end of a line alone. -/
namespace Go.Proofs.YtkophiklkgefnaaDoor.Ln
open Go.RowKit

section
variable (s : List UInt8)
theorem plc_step (k : Nat) (h : k < (rl s).length) : plc s k < s.length ∧ plc s k + (dec (s.drop (plc s k))).2 = plc s (k + 1) := by
  have e1 := List.getElem?_eq_getElem h
  have hs := plc_succ s k _ e1
  have hle := plc_le s (k + 1)
  have hp := rl_pos s.length s (Nat.le_refl _) _ (List.getElem_mem h)
  have hlt : plc s k < s.length := by omega
  have h5 := rl_drop s k (by omega)
  rw [rl_cons _ (drop_ne s _ hlt), List.drop_eq_getElem_cons h] at h5
  rw [(List.cons.inj h5).1]
  exact ⟨hlt, hs.symm⟩
theorem plc_mono (i k : Nat) (h : i ≤ k) (hk : k ≤ (rl s).length) : plc s i ≤ plc s k := by
  have h1 := Wt.pos_mono s (k - i) i (by omega)
  rw [show i + (k - i) = k by omega] at h1
  have e1 : plc s i = Wt.pos s i := rfl
  have e2 : plc s k = Wt.pos s k := rfl
  omega
theorem plc_lt2 (i k : Nat) (h : i < k) (hk : k ≤ (rl s).length) : plc s i < plc s k := by
  have h1 := Wt.pos_mono s (k - i) i (by omega)
  rw [show i + (k - i) = k by omega] at h1
  have e1 : plc s i = Wt.pos s i := rfl
  have e2 : plc s k = Wt.pos s k := rfl
  omega
theorem onw_at (i : Nat) : ∀ (n k : Nat), (rl s).length - k ≤ n → i ≤ k → k ≤ (rl s).length → i < (rl s).length →
    ∃ j, k ≤ j ∧ i < j ∧ j ≤ (rl s).length ∧ onwT s (plc s i) (plc s i) (plc s k - plc s i) = plc s j ∧ ∀ k', k ≤ k' → i < k' → k' < j → lncut s (plc s i) (plc s k') = false
  | n, k, hn, hik, hk, hi => by
    have hm := plc_mono s i k hik hk
    by_cases hlt : k < (rl s).length
    · obtain ⟨p1, p2⟩ := plc_step s k hlt
      have hd : plc s k - plc s i < (s.drop (plc s i)).length := by rw [List.length_drop]; omega
      have hpp : plc s i + (plc s k - plc s i) = plc s k := by omega
      by_cases hc : 0 < plc s k - plc s i ∧ lncut s (plc s i) (plc s k) = true
      · refine ⟨k, Nat.le_refl _, ?_, hk, ?_, fun k' h1 _ h3 => by omega⟩
        · rcases Nat.lt_or_ge i k with h | h
          · exact h
          · have e : i = k := by omega
            subst e
            omega
        · rw [onwT_here s _ _ _ hd hc.1 (by rw [hpp]; exact hc.2), hpp]
      · cases n with
        | zero => omega
        | succ n =>
          obtain ⟨j, j1, j2, j3, j4, j5⟩ := onw_at i n (k + 1) (by omega) (by omega) (by omega) hi
          refine ⟨j, by omega, j2, j3, ?_, fun k' h1 h2 h3 => ?_⟩
          · rw [onwT_next s _ _ _ hd (by rw [hpp]; exact hc), List.drop_drop, hpp, ← j4]
            congr 1
            omega
          · by_cases e : k' = k
            · subst e
              have h6 : 0 < plc s k' - plc s i := by have := plc_lt2 s i k' h2 hk; omega
              cases h7 : lncut s (plc s i) (plc s k') with
              | false => rfl
              | true => exact absurd ⟨h6, h7⟩ hc
            · exact j5 k' (by omega) h2 h3
    · have e : k = (rl s).length := by omega
      have h0 : plc s k = s.length := plc_all s k (by omega)
      refine ⟨k, Nat.le_refl _, by omega, hk, ?_, fun k' h1 _ h3 => by omega⟩
      rw [onwT_end s _ _ _ (by rw [List.length_drop]; omega), h0]
/-- A place within a line: no line must end there. -/
def Okk (k : Nat) : Prop := lnends (lnlast (s.take (plc s k))) = false ∨ (lnlast (s.take (plc s k)) = 2 ∧ lnfirst (s.drop (plc s k)) = 3)
theorem okk_of (fr k : Nat) (h : lncut s fr (plc s k) = false) : Okk s k := by
  unfold lncut at h
  unfold Okk
  split at h
  · rename_i h1
    exact .inr h1
  · split at h
    · cases h
    · rename_i h2
      exact .inl (by simpa using h2)
/-- Lines one behind the other, from a number of runes on. -/
def Lns : Nat → List (Int × Int) → Prop
  | f, [] => f = (rl s).length
  | f, x :: R => ∃ b, f < b ∧ b ≤ (rl s).length ∧ x = ((plc s f : Int), (plc s b : Int)) ∧ (∀ k, f < k → k < b → Okk s k) ∧ Lns b R
theorem lns_all : ∀ (n f i : Nat), (rl s).length - i ≤ n → f ≤ i → i ≤ (rl s).length → (i = (rl s).length → f = i) → (∀ k, f < k → k ≤ i → k < (rl s).length → Okk s k) → Lns s f (lsF (plc s f) (chs s (plc s i)))
  | n, f, i, hn, hfi, hi, he, hG => by
    by_cases hlt : i < (rl s).length
    · obtain ⟨p1, _⟩ := plc_step s i hlt
      obtain ⟨j, _, j2, j3, j4, j5⟩ := onw_at s i ((rl s).length) i (by omega) (Nat.le_refl _) hi hlt
      rw [Nat.sub_self] at j4
      have hj : onw s (plc s i) (plc s i) = plc s j := j4
      cases n with
      | zero => omega
      | succ n =>
        rw [chs_step s _ p1, hj, lsF]
        have hin : ∀ k, f < k → k < j → Okk s k := fun k h1 h2 => by
          by_cases hk : k ≤ i
          · exact hG k h1 hk (by omega)
          · exact okk_of s _ k (j5 k (by omega) (by omega) h2)
        by_cases hm : lnmust s (plc s j) = true
        · rw [if_pos hm]
          exact ⟨j, by omega, j3, rfl, hin, lns_all n j j (by omega) (Nat.le_refl _) j3 (fun _ => rfl) (fun k h1 h2 _ => by omega)⟩
        · rw [if_neg hm]
          have hm' : lnmust s (plc s j) = false := by simpa using hm
          unfold lnmust at hm'
          rw [Bool.or_eq_false_iff] at hm'
          have hjn : j ≠ (rl s).length := fun e => absurd (plc_all s j (by omega)) (of_decide_eq_false hm'.1)
          refine lns_all n f j (by omega) (by omega) j3 (fun e => absurd e hjn) (fun k h1 h2 h3 => ?_)
          by_cases hk : k < j
          · exact hin k h1 hk
          · have e : k = j := by omega
            subst e
            exact .inl hm'.2
    · have e : i = (rl s).length := by omega
      have ef := he e
      rw [chs_end s _ (by rw [plc_all s i (by omega)]; omega)]
      show f = (rl s).length
      omega
theorem lns_text : Lns s 0 (lsF 0 (chs s 0)) := lns_all s _ 0 0 (Nat.le_refl _) (Nat.le_refl _) (by omega) (fun _ => rfl) (fun k h1 h2 _ => by omega)
/-- Where the last of some lines ends. -/
def lsE : Int → List (Int × Int) → Int
  | v, [] => v
  | _, x :: R => lsE x.2 R
theorem lsE_snoc : ∀ (pre : List (Int × Int)) (v : Int) (x : Int × Int), lsE v (pre ++ [x]) = x.2
  | [], _, _ => rfl
  | y :: R, _, x => lsE_snoc R y.2 x
theorem lns_at : ∀ (pre : List (Int × Int)) (f : Nat) (x : Int × Int) (R : List (Int × Int)), Lns s f (pre ++ x :: R) → ∃ a b, a < b ∧ b ≤ (rl s).length ∧ lsE (plc s f) pre = (plc s a : Int) ∧ x = ((plc s a : Int), (plc s b : Int)) ∧ (∀ k, a < k → k < b → Okk s k)
  | [], f, x, R, h => by
    obtain ⟨b, h1, h2, h3, h4, _⟩ := h
    exact ⟨f, b, h1, h2, rfl, h3, h4⟩
  | y :: P, f, x, R, h => by
    obtain ⟨b, _, _, h3, _, h5⟩ := h
    have ih := lns_at P b x R h5
    rw [lsE, h3]
    exact ih
theorem lns_end : ∀ (L : List (Int × Int)) (f : Nat), Lns s f L → lsE (plc s f) L = (s.length : Int)
  | [], f, h => by
    have h : f = (rl s).length := h
    show ((plc s f : Nat) : Int) = _
    rw [plc_all s f (by omega)]
  | y :: P, f, h => by
    obtain ⟨b, _, _, h3, _, h5⟩ := h
    rw [lsE, h3]
    exact lns_end P b h5
/-- What holds of two runes of a line. -/
theorem lw_two (a b i : Nat) (hO : ∀ k, a < k → k < b → Okk s k) (hi : a + i + 1 < b) (ca cb : Int) (x y : Nat × Nat) (hx : (rl s)[a + i]? = some x) (hy : (rl s)[a + i + 1]? = some y) (hca : lncls x.1 = ca) (hcb : lncls y.1 = cb) : (ca ≠ 1 ∧ ca ≠ 2 ∧ ca ≠ 3) ∨ (ca = 2 ∧ cb = 3 ∧ a + i + 2 = b) := by
  have h1 := hO (a + i + 1) (by omega) hi
  have e1 := last_at s (a + i) x hx
  have e2 := first_at s (a + i + 1) y hy
  have e3 := last_at s (a + i + 1) y hy
  rw [hca] at e1
  rw [hcb] at e2 e3
  unfold Okk at h1
  rw [e1, e2] at h1
  rcases h1 with h1 | ⟨h1, h2⟩
  · refine .inl ?_
    unfold lnends amg at h1
    simp at h1
    exact h1
  · refine .inr ⟨h1, h2, ?_⟩
    rcases Nat.lt_or_ge (a + i + 1 + 1) b with h | h
    · have h3 := hO (a + i + 1 + 1) (by omega) h
      unfold Okk at h3
      rw [e3, h2] at h3
      rcases h3 with h3 | ⟨h3, _⟩
      · exact absurd h3 (by decide)
      · exact absurd h3 (by decide)
    · omega
end
end Go.Proofs.YtkophiklkgefnaaDoor.Ln
/- LineWhole: the law's walk. -/
namespace Go.Proofs.YtkophiklkgefnaaDoor.Ln
open Go.RowKit Go.Shelf
attribute [local go_sem] Oper.semAt_some

theorem eql_lines (w : World) (B : Nat) : (binOp BinOp.eql 41 (Value.func (.func 50) #[] #[.pointer (some ⟨B, 0, none⟩)]) Value.nilFunc).run Tryd.prog w = Result.ok (Value.bool false) w := by kernel_rfl
attribute [local go_sem] eql_lines
theorem results_bool {fn : Func} (h : fn.results = #[.cell 2 4]) (tmps : Array Value) (w : World) (g : Nat) (v : Value) (hp : tmps[2]?.getD undef = .pointer (some ⟨g, 0, none⟩)) (hg : Boxed w g 4 v) : (results fn tmps).run Tryd.prog w = .ok v w := by
  have c := hg.cell
  simp only [results, h]
  go_simp
theorem tbs_below {w w' : World} (h : Ev.Tbs tabs w) (hb : Below w.heap.size w w') : Ev.Tbs tabs w' := fun x hx => by
  obtain ⟨c, h1, h2⟩ := h x hx
  exact ⟨c, (hb.block _ (Array.getElem?_eq_some_iff.1 h1).1).trans h1, h2⟩
theorem bdr (w : World) : Below w.heap.size w w.drew := Dc.bdrew w
theorem txt_le (l : List UInt8) : (Dc.txt l).length ≤ l.length := by
  have h2 := Dc.plr_len l l.length 0 (by omega)
  have h3 := Dc.cls_len l.length (Dc.plr l 0)
  have h4 : (Dc.txt l).length = (Dc.plr l 0).length := h3
  omega
/-- The text of a piece. -/
def ptx (l : List UInt8) (f t : Nat) : List UInt8 := (l.take t).drop f
theorem ext_pc (l : List UInt8) (a b : Nat) : (⟨l.toArray⟩ : ByteArray).extract a b = ⟨(ptx l a b).toArray⟩ := by
  unfold ptx
  apply ByteArray.ext
  simp [ByteArray.data_extract, List.drop_take]
theorem below_grown {N : Nat} {w X Y : World} {row : Option Nat} (h : Below N w X) (hN : N ≤ X.heap.size) (hg : X.grownBy Y row) (hr : ∀ r, row = some r → N ≤ r) : Below N w Y :=
  h.trans ⟨hg.os, hg.tape, hg.output, hg.size, fun k hk => hg.block k (by omega) (fun e => by have := hr k e.symm; omega)⟩
theorem lw_at (l : List UInt8) (a b k : Nat) (hb : b ≤ (rl l).length) (hab : a ≤ b) (hk : a + k < b) : (rl (ptx l (plc l a) (plc l b)))[k]? = (rl l)[a + k]? := by
  have h := Wt.rl_piece l a b hab hb
  have e : rl (ptx l (plc l a) (plc l b)) = ((rl l).take b).drop a := h
  rw [e, List.getElem?_drop, List.getElem?_take, if_pos hk]
theorem lw_len (l : List UInt8) (a b : Nat) (hb : b ≤ (rl l).length) (hab : a ≤ b) : (rl (ptx l (plc l a) (plc l b))).length = b - a := by
  have h := Wt.rl_piece l a b hab hb
  have e : rl (ptx l (plc l a) (plc l b)) = ((rl l).take b).drop a := h
  rw [e, List.length_drop, List.length_take]
  omega
set_option maxHeartbeats 16000000 in
set_option maxRecDepth 100000 in
theorem whole_in (l : List UInt8) (w : World) (ht : Tb w) (hv : Ev.Tbs tabs w) :
    CallsIn Fence.wide 6 Tryd.prog 8 #[.string ⟨l.toArray⟩] w fun e W' => e = .returned (.bool true) ∧ Below w.heap.size w W' := by
  have HT := hid ht
  have HV := hid hv
  have h2 := ht.two
  clear ht hv
  refine callsIn_of_wp_marks Tryd.func8 rfl trivial ?_ rfl
  simp only [Tryd.ntmps8, List.size_toArray, List.length_cons, List.length_nil, Nat.reduceAdd, Nat.reduceSub, Array.replicate_succ, Array.replicate_zero, List.push_toArray, List.append_toArray, List.nil_append, List.cons_append]
  obtain ⟨W1, hW1⟩ : ∃ W1, W1 = (w.alloc (.cells #[.string ⟨l.toArray⟩] 9)).alloc (.cells #[.bool false] 4) := ⟨_, rfl⟩
  have hB1 : Below w.heap.size w W1 := by rw [hW1]; exact ((Below.refl _ _).alloc (Nat.le_refl _) _).alloc (by simp) _
  have s1 : W1.heap.size = w.heap.size + 2 := by rw [hW1]; simp
  have a0 : Boxed W1 w.heap.size 9 (.string ⟨l.toArray⟩) := by rw [hW1]; exact (Boxed.new w 9 _).alloc _
  have a1 : Boxed W1 (w.heap.size + 1) 4 (.bool false) := by
    have h := Boxed.new (w.alloc (.cells #[.string ⟨l.toArray⟩] 9)) 4 (.bool false)
    rw [World.size_alloc] at h
    rw [hW1]; exact h
  have cs := a0.cell
  rw [hW1] at cs
  by_cases hl : (60 : Int) < (l.length : Int)
  · gi_wp2_with fail
    rw [← hW1]
    refine ⟨trivial, (callsIn_wide.2 (lives14 W1 (tbs_below HV.out hB1))).mono ?_⟩
    rintro e w5 ⟨rfl, be⟩
    have b4 : Boxed w5 (w.heap.size + 1) 4 (.bool false) := (be.block _ a1.lt).trans a1
    have c5 := b4.cell
    have z5 := b4.frozen
    have HR := hid (b4.set (.bool true))
    have HBR := hid (show Below w.heap.size w (w5.setCell ⟨w.heap.size + 1, 0, none⟩ (.bool true)) from (hB1.trans (be.mono hB1.size)).setCell (Nat.le_succ _) _)
    clear be hB1 hW1 a1 b4 cs a0
    gi_wp2
    exact ⟨_, results_bool rfl _ _ _ _ rfl HR.out, rfl, HBR.out⟩
  have hl2 : l.length ≤ 60 := by omega
  gi_wp2_with fail
  rw [← hW1]
  refine ⟨trivial, (callsIn_wide.2 (lines_mk l W1)).mono ?_⟩
  rintro e w' ⟨rfl, rfl⟩
  rw [s1]
  have hB0 : Below W1.heap.size W1 (W1.alloc (.cells #[.string ⟨l.toArray⟩] 9)) := (Below.refl _ _).alloc (Nat.le_refl _) _
  have b3 := Boxed.new W1 9 (.string ⟨l.toArray⟩)
  have s2 : (W1.alloc (.cells #[.string ⟨l.toArray⟩] 9)).heap.size = w.heap.size + 3 := by simp; omega
  rw [s1] at b3
  obtain ⟨W2, hW2⟩ : ∃ W2, W2 = W1.alloc (.cells #[.string ⟨l.toArray⟩] 9) := ⟨_, rfl⟩
  rw [← hW2] at hB0 b3 s2 ⊢
  clear hW2 hW1 cs
  have hBW := hB1.trans (hB0.mono hB1.size)
  have f0 : Boxed W2 w.heap.size 9 (.string ⟨l.toArray⟩) := (hB0.block _ a0.lt).trans a0
  have f1 : Boxed W2 (w.heap.size + 1) 4 (.bool false) := (hB0.block _ a1.lt).trans a1
  clear a0 a1 hB0 hB1
  gi_wp2_with fail
  refine ⟨trivial, (callsIn_wide.2 (Dc.db14 W2)).mono ?_⟩
  rintro e w2 ⟨be, Q, rfl, hk⟩
  have hB2 := hBW.trans (be.mono hBW.size)
  have g0 : Boxed w2 w.heap.size 9 (.string ⟨l.toArray⟩) := (be.block _ f0.lt).trans f0
  have g1 : Boxed w2 (w.heap.size + 1) 4 (.bool false) := (be.block _ f1.lt).trans f1
  have g2 : Boxed w2 (w.heap.size + 2) 9 (.string ⟨l.toArray⟩) := (be.block _ b3.lt).trans b3
  have HK2 := hid hk
  have hs2 := be.size
  clear be hk f0 f1 b3 hBW
  have hB : Below w2.heap.size w2 ((w2.alloc (.cells #[.pointer (some ⟨Q, 0, none⟩)] 25)).alloc (.cells #[.int .i64 0] 3)) := ((Below.refl _ _).alloc (Nat.le_refl _) _).alloc (by simp) _
  have hs : ((w2.alloc (.cells #[.pointer (some ⟨Q, 0, none⟩)] 25)).alloc (.cells #[.int .i64 0] 3)).heap.size = w2.heap.size + 2 := by simp
  have d0 := (Boxed.new w2 25 (.pointer (some ⟨Q, 0, none⟩))).alloc (.cells #[.int .i64 0] 3)
  have d1 := Boxed.new (w2.alloc (.cells #[.pointer (some ⟨Q, 0, none⟩)] 25)) 3 (.int .i64 0)
  rw [World.size_alloc] at d1
  obtain ⟨w3, hw3⟩ : ∃ w3, w3 = (w2.alloc (.cells #[.pointer (some ⟨Q, 0, none⟩)] 25)).alloc (.cells #[.int .i64 0] 3) := ⟨_, rfl⟩
  rw [← hw3] at d0 d1 hB hs
  have HT2 := hid (HT.out.below hB2)
  have HV2 := hid (tbs_below HV.out hB2)
  have HE := hid (show EaAt (w.heap.size + 1 + 1) l w3 from ⟨(hB.block _ g2.lt).trans g2, HT2.out.below hB⟩)
  have HLN := hid (lns_text l)
  gi_wp2_with fail
  rw [← hw3]
  clear hw3
  refine rangeQ rfl (by omega) rfl trivial (enters_of Tryd.func50 (by kernel_rfl) rfl) (lines_q (6 - 1) (w.heap.size + 1 + 1) l w3 (by omega) HE.out (by omega)) Kn_t (Kn_b (by omega)) (Below.refl _ _) (fun _ => rfl)
    (fun pre V => (Boxed V (w2.heap.size + 1) 3 (.int .i64 (lsE 0 pre)) ∧ Boxed V w2.heap.size 25 (.pointer (some ⟨Q, 0, none⟩))) ∧ Below w2.heap.size w2 V)
    (fun _ _ _ => False)
    (fun s X Y row h hg hr => ⟨⟨recA_stays hg hr (by omega) h.1.1, recA_stays hg hr (by omega) h.1.2⟩, below_grown h.2 h.2.size hg (fun r e => by have := hr r e; omega)⟩)
    (fun _ _ _ _ _ hs _ _ => hs)
    ⟨⟨d1, d0⟩, hB⟩
    (fun x a' _ => a' = { tmps := #[.string ⟨l.toArray⟩, .pointer (some ⟨w.heap.size, 0, none⟩), .pointer (some ⟨w.heap.size + 1, 0, none⟩), Value.func (.func 50) #[] #[.pointer (some ⟨w.heap.size + 1 + 1, 0, none⟩)], .pointer (some ⟨w2.heap.size, 0, none⟩), .pointer (some ⟨w2.heap.size + 1, 0, none⟩), .int .i64 x.1, .int .i64 x.2, undef, undef, undef, undef, .string ⟨l.toArray⟩, .int .i64 (l.length : Nat), .bool false, undef, .string ⟨l.toArray⟩, Value.func (.func 50) #[] #[.pointer (some ⟨w.heap.size + 1 + 1, 0, none⟩)], Value.func (.func 50) #[] #[.pointer (some ⟨w.heap.size + 1 + 1, 0, none⟩)], .bool false, .pointer (some ⟨Q, 0, none⟩), Value.func (.func 50) #[] #[.pointer (some ⟨w.heap.size + 1 + 1, 0, none⟩)], .int .i64 x.1, .int .i64 x.2, undef, undef, undef, undef, undef, undef, undef, undef, undef, undef, undef, undef, undef, undef, undef, undef, undef, undef, undef, undef, undef, undef, undef, undef, undef, undef, undef, undef, undef, undef, undef, undef, undef, undef, undef, undef, undef, undef, undef, undef, undef, undef, undef, undef, undef, undef, undef, undef, undef, undef, undef, undef, undef, undef, undef, undef, undef, undef, undef, undef, undef, undef, undef, undef, undef], defers := [] })
    (fun _ _ _ _ _ _ h _ _ => h) ?assign ?body ?done ?stop
  case assign =>
    intro lp2 pre x V K _ hI hK
    dsimp only [encI]
    gi_wp2
    refine hK _ _ (KeepsFrom.refl _ _) (Kn.refl _ _) hI ?_
    first | rfl | simp
  case body =>
    rintro lp2 pre x a' V hlp _ ⟨⟨hat, hdd⟩, hbe⟩ rfl hsp
    have hlp2 : w2.heap.size + 2 ≤ lp2 := by omega
    have HS := hid hs
    clear hs hlp
    obtain ⟨R, hR⟩ := hsp
    have hLN := HLN.out
    rw [← hR, List.append_assoc] at hLN
    obtain ⟨a, b, hab, hbn, hE, hX, hO⟩ := lns_at l pre 0 x R hLN
    have hE' : lsE 0 pre = (plc l a : Int) := hE
    subst hX
    rw [hE'] at hat
    have hF := plc_lt2 l a b hab hbn
    have hT := plc_le l b
    have HNX := hid (lsE_snoc pre 0 ((plc l a : Int), (plc l b : Int)))
    have HLA := hid (fun k (hk : a + k < b) => lw_at l a b k hbn (by omega) hk)
    have HLL := hid (lw_len l a b hbn (by omega))
    have HO := hid hO
    have HBN := hid hbn
    obtain ⟨F, hFe⟩ : ∃ F, F = plc l a := ⟨_, rfl⟩
    obtain ⟨T, hTe⟩ : ∃ T, T = plc l b := ⟨_, rfl⟩
    rw [← hFe, ← hTe] at HLA HLL HNX
    rw [← hFe] at hF hat
    rw [← hTe] at hF hT
    rw [← hFe, ← hTe]
    clear hR hLN hE hE' hFe hTe hO
    have HTV := hid (HT2.out.below hbe)
    have HKV := hid (HK2.out.below hbe)
    have csV := (show Boxed V w.heap.size 9 (.string ⟨l.toArray⟩) from (hbe.block _ g0.lt).trans g0).cell
    have caV := hat.cell
    have x0 : (0 : Int) ≤ (F : Int) := by omega
    have x1 : (F : Int) ≤ (T : Int) := by omega
    have x2 : (T : Int) ≤ (l.length : Int) := by omega
    have x3 : ¬ (T : Int) ≤ (F : Int) := by omega
    have hVs := hat.lt
    have HAT := hid hat
    have HDD := hid hdd
    have HBE := hid hbe
    obtain ⟨p, hp⟩ : ∃ p, p = ptx l F T := ⟨_, rfl⟩
    have hpl : p.length ≤ 60 := by rw [hp]; unfold ptx; simp; omega
    rw [← hp] at HLA HLL
    have HP := hid hp
    have FIN : ∀ U : World, Below V.heap.size V U → KeepsFrom w3.heap.size V (U.setCell ⟨w2.heap.size + 1, 0, none⟩ (.int .i64 (T : Int))) ∧ Kn (lp2 + 1) V (U.setCell ⟨w2.heap.size + 1, 0, none⟩ (.int .i64 (T : Int))) ∧ (Boxed (U.setCell ⟨w2.heap.size + 1, 0, none⟩ (.int .i64 (T : Int))) (w2.heap.size + 1) 3 (.int .i64 (lsE 0 (pre ++ [((F : Int), (T : Int))]))) ∧ Boxed (U.setCell ⟨w2.heap.size + 1, 0, none⟩ (.int .i64 (T : Int))) w2.heap.size 25 (.pointer (some ⟨Q, 0, none⟩))) ∧ Below w2.heap.size w2 (U.setCell ⟨w2.heap.size + 1, 0, none⟩ (.int .i64 (T : Int))) := fun U h => by
      have u1 : Boxed U (w2.heap.size + 1) 3 (.int .i64 (F : Int)) := (h.block _ HAT.out.lt).trans HAT.out
      have u0 : Boxed U w2.heap.size 25 (.pointer (some ⟨Q, 0, none⟩)) := (h.block _ HDD.out.lt).trans HDD.out
      have hU := HBE.out.trans (h.mono HBE.out.size)
      refine ⟨(KeepsFrom.of_grownBy (grown_below h) (fun j e => by cases e)).trans (KeepsFrom.of_grownBy (grownBy_setCell' _ _ _) (fun r e => by have q := HS.out; cases e; omega)), ⟨Kt_t (Kt.below h HTV.out.two) (Kt.set u1 (by omega) _), fun k h1 h3 => (Below.heap_setCell _ _ _ k (show k ≠ w2.heap.size + 1 by omega)).trans (h.block k h3)⟩, ⟨by rw [HNX.out]; exact u1.set _, u0.other (by omega) _⟩, hU.setCell (Nat.le_succ _) _⟩
    have HFIN := hid FIN
    clear FIN hp hbe hat hdd
    gi_wp2_with fail
    rw [ext_pc, ← HP.out]
    refine ⟨trivial, (CallsIn.inRound lp2 (callsIn_wide.2 (Dc.rrunes_rd p V (by omega)))).mono ?_⟩
    rintro e V1 ⟨xo, xc, rfl, hr, b1⟩
    have HR := hid hr
    have HB1 := hid b1
    have HN := hid (txt_len p)
    obtain ⟨n, hn⟩ : ∃ n, n = (Dc.txt p).length := ⟨_, rfl⟩
    have n9 : n ≤ 60 := by have := txt_le p; omega
    rw [← hn] at HN ⊢
    have hnab : n = b - a := by have := HN.out; have := HLL.out; omega
    have HNAB := hid hnab
    clear hr b1 hn csV caV hnab
    gi_wp2
    gi_loopw [9] (fun x wr => ∃ k : Nat, k ≤ n ∧ x = .int .i64 (k : Int) ∧ Hid (Below V.heap.size V wr) ∧ Hid (Dc.RdT wr xo (Dc.txt p))) (fun x _ => n - (intOf x).toNat)
    case atStart => exact ⟨0, by omega, rfl, HB1.out, HR.out⟩
    case round =>
      obtain ⟨k, hk, rfl, HB, HX⟩ := hrel
      clear HB1 HR
      by_cases h0 : k + 1 < n
      · obtain ⟨k1, hk1⟩ : ∃ k1, k1 = k + 1 := ⟨_, rfl⟩
        have hj : k < (rl p).length := by have := HN.out; omega
        have hj1 : k1 < (rl p).length := by have := HN.out; omega
        have HEx := hid (List.getElem?_eq_getElem hj)
        have HEy := hid (List.getElem?_eq_getElem hj1)
        obtain ⟨y, hy⟩ : ∃ y, y = (rl p)[k] := ⟨_, rfl⟩
        obtain ⟨z, hz⟩ : ∃ z, z = (rl p)[k1] := ⟨_, rfl⟩
        rw [← hy] at HEx
        rw [← hz] at HEy
        obtain ⟨g, rfl, hg, z0, _, _⟩ := HX.out k _ (txt_at p k y HEx.out)
        obtain ⟨g', hg', _, y0, _, _⟩ := HX.out k1 _ (txt_at p k1 z HEy.out)
        cases hg'
        have HRx := hid (rl_rune p y (by rw [hy]; exact List.getElem_mem hj))
        have HRy := hid (rl_rune p z (by rw [hz]; exact List.getElem_mem hj1))
        obtain ⟨ca, hca, hca2⟩ := lncls_bd y.1 HRx.out
        obtain ⟨cb, hcb, hcb2⟩ := lncls_bd z.1 HRy.out
        have HTWO := hid (show ((ca : Int) ≠ 1 ∧ (ca : Int) ≠ 2 ∧ (ca : Int) ≠ 3) ∨ ((ca : Int) = 2 ∧ (cb : Int) = 3 ∧ a + k + 2 = b) from by
          have q1 := HNAB.out
          have e1 := (HLA.out k (by omega)).symm.trans HEx.out
          have e2 := (HLA.out k1 (by omega)).symm.trans HEy.out
          rw [hk1] at e2
          exact lw_two l a b k HO.out (by omega) ca cb y z e1 e2 hca hcb)
        have HCa := hid hca
        have HCb := hid hcb
        have HCa2 := hid hca2
        have HCb2 := hid hcb2
        obtain ⟨ua, hua⟩ : ∃ u, u = Dc.lnN (ca : Int) := ⟨_, rfl⟩
        obtain ⟨ub, hub⟩ : ∃ u, u = Dc.lnN (cb : Int) := ⟨_, rfl⟩
        have HUa := hid hua
        have HUb := hid hub
        have HNMa := hid (fun ww (hh : Dc.Bk Dc.lnU Dc.lnW Q ww) => (show Calls Tryd.prog 29 #[.pointer (some ⟨Q, 0, none⟩), .int .i32 (y.1 : Int)] ww fun e w' => e = .returned (.string ⟨ua.toArray⟩) ∧ Below ww.heap.size ww w' by
          have h5 := Dc.named_ln Q y.1 ww hh HRx.out
          rw [HCa.out, ← HUa.out] at h5
          exact h5))
        have HNMb := hid (fun ww (hh : Dc.Bk Dc.lnU Dc.lnW Q ww) => (show Calls Tryd.prog 29 #[.pointer (some ⟨Q, 0, none⟩), .int .i32 (z.1 : Int)] ww fun e w' => e = .returned (.string ⟨ub.toArray⟩) ∧ Below ww.heap.size ww w' by
          have h5 := Dc.named_ln Q z.1 ww hh HRy.out
          rw [HCb.out, ← HUb.out] at h5
          exact h5))
        obtain ⟨X0, hX0⟩ : ∃ X0, X0 = (y.1 : Int) := ⟨_, rfl⟩
        obtain ⟨Y0, hY0⟩ : ∃ Y0, Y0 = (z.1 : Int) := ⟨_, rfl⟩
        rw [← hX0] at z0 HNMa
        rw [← hY0] at y0 HNMb
        have i0 : (0 : Int) ≤ (k : Int) := by omega
        have i1 : (k : Int) < (n : Int) := by omega
        have i2 : (0 : Int) ≤ (k1 : Int) := by omega
        have i3 : (k1 : Int) < (n : Int) := by omega
        have i4 : (k : Int) + 1 < (n : Int) := by omega
        have i5 : IntKind.i64.wrap ((k : Int) + 1) = (k1 : Int) := by rw [show (k : Int) + 1 = (k1 : Int) by omega]; rw [IntKind.wrap_i64]; omega
        have i6 : (k : Int) + 1 = (k1 : Int) := by omega
        have i9 : IntKind.i64.wrap (k1 : Int) = (k1 : Int) := by rw [IntKind.wrap_i64]; omega
        have dc := (show Boxed wr w2.heap.size 25 (.pointer (some ⟨Q, 0, none⟩)) from (HB.out.block _ HDD.out.lt).trans HDD.out).cell
        have HKW := hid (HKV.out.below HB.out)
        have HK1 := hid hk1
        clear hX0 hY0 hua hub hca hca2 hcb hcb2 hy hz hj hj1 hk1
        gi_wp2_with fail
        refine wpIn_region_mix lp2 _ [(0, true), (1, true), (2, true), (3, true), (4, true), (5, true), (7, true), (8, true), (9, true), (10, true), (11, true), (12, true), (13, true), (6, false), (14, false), (15, true), (16, true)] (fun w' => w'.cell? ⟨w2.heap.size, 0, none⟩ = some (.pointer (some ⟨Q, 0, none⟩)) ∧ w'.cell? ⟨g, k * 3, none⟩ = some (.int .i32 X0) ∧ w'.cell? ⟨g, k1 * 3, none⟩ = some (.int .i32 Y0)) (fun _ => false) (by kernel_rfl) (by kernel_rfl) (by kernel_rfl) (fun j hj => by cases hj) rfl (by kernel_rfl) ⟨dc, z0, y0⟩ ?_
        iterate 13 (refine mix_free ?_ rfl (by kernel_rfl) (fun w' hS => ?_) ?_; (rotate_left; (obtain ⟨y8, y9, y7⟩ := hS; go_simp; with_reducible rfl); rotate_left))
        refine mix_go rfl (by kernel_rfl) fun KK hKK => ?_
        go_simp
        refine (HNMa.out _ (HKW.out.below (bdr _))).mono ?_
        rintro e w7 ⟨rfl, be⟩
        have HB7 := hid ((bdr wr).trans be)
        refine hKK _ _ (fun _ => ⟨(HB7.out.cell (p := ⟨w2.heap.size, 0, none⟩) (World.block_lt_of_cell? wr _ dc)).trans dc, (HB7.out.cell (p := ⟨g, k * 3, none⟩) hg).trans z0, (HB7.out.cell (p := ⟨g, k1 * 3, none⟩) hg).trans y0⟩) ?_
        clear hKK KK be
        refine mix_go rfl (by kernel_rfl) fun KK hKK => ?_
        go_simp
        refine (HNMb.out _ (HKW.out.below HB7.out)).mono ?_
        rintro e w8 ⟨rfl, be⟩
        have HB8 := hid (HB7.out.trans (be.mono HB7.out.size))
        refine hKK _ _ (fun _ => ⟨(HB8.out.cell (p := ⟨w2.heap.size, 0, none⟩) (World.block_lt_of_cell? wr _ dc)).trans dc, (HB8.out.cell (p := ⟨g, k * 3, none⟩) hg).trans z0, (HB8.out.cell (p := ⟨g, k1 * 3, none⟩) hg).trans y0⟩) ?_
        clear hKK KK be HB7 HNMa HNMb
        iterate 2 (refine mix_free ?_ rfl (by kernel_rfl) (fun w' hS => ?_) ?_; (rotate_left; (go_simp; with_reducible rfl); rotate_left))
        refine mix_end (OnlyN.in ?_)
        go_simp
        have HX9 := hid (HX.out.below HB8.out)
        have HB9 := hid (HB.out.trans (HB8.out.mono HB.out.size))
        clear HB HX HB8 dc z0 y0 HKW
        rcases HTWO.out with ⟨q1, q2, q3⟩ | ⟨q1, q2, q3⟩
        · have u1 : (ua == [66, 107]) = false := by rw [HUa.out]; exact lnN_ne ca HCa2.out 1 (by omega) (by omega) _ (by decide +kernel)
          have u2 : (ua == [67, 114]) = false := by rw [HUa.out]; exact lnN_ne ca HCa2.out 2 (by omega) (by omega) _ (by decide +kernel)
          have u3 : (ua == [76, 102]) = false := by rw [HUa.out]; exact lnN_ne ca HCa2.out 3 (by omega) (by omega) _ (by decide +kernel)
          clear q1 q2 q3
          gi_wp2
          all_goals try (rename_i b9 h9 h8; cases h9; done)
          go_roundw
          case rel => exact ⟨k + 1, by omega, by go_num, HB9.out, HX9.out⟩
          case measure => simp [intOf]; omega
        · obtain rfl : ua = [67, 114] := HUa.out.trans (by rw [show ca = 2 by omega]; decide +kernel)
          obtain rfl : ub = [76, 102] := HUb.out.trans (by rw [show cb = 3 by omega]; decide +kernel)
          have i7 : (k : Int) + 2 = (n : Int) := by have := HNAB.out; omega
          have i8 : ((k : Int) + 2 == (n : Int)) = true := by rw [i7]; exact beq_self_eq_true _
          clear q1 q2 q3
          gi_wp2
          go_roundw
          case rel => exact ⟨k + 1, by omega, by go_num, HB9.out, HX9.out⟩
          case measure => simp [intOf]; omega
      · have i4 : ¬ (k : Int) + 1 < (n : Int) := by omega
        have c9 := (show Boxed wr (w2.heap.size + 1) 3 (.int .i64 (F : Int)) from (HB.out.block _ HAT.out.lt).trans HAT.out).cell
        have z9 := (show Boxed wr (w2.heap.size + 1) 3 (.int .i64 (F : Int)) from (HB.out.block _ HAT.out.lt).trans HAT.out).frozen
        have HQ := hid (HFIN.out _ HB.out)
        gi_wp2
        exact HQ.out
  case done =>
    rintro D xs V hD rfl ⟨⟨hat, _⟩, hbe⟩ hK
    have HVV := hid (tbs_below HV2.out hbe)
    have hen : lsE 0 (lsF 0 (chs l 0)) = (l.length : Int) := lns_end l _ 0 HLN.out
    rw [hen] at hat
    have cat := hat.cell
    have cs0 := (show Boxed V w.heap.size 9 (.string ⟨l.toArray⟩) from (hbe.block _ g0.lt).trans g0).cell
    have b0 : Boxed V (w.heap.size + 1) 4 (.bool false) := (hbe.block _ g1.lt).trans g1
    have HBV := hid (hB2.trans (hbe.mono hB2.size))
    clear hen hat
    gi_wp2_with fail
    refine ⟨trivial, (callsIn_wide.2 (lives14 V HVV.out)).mono ?_⟩
    rintro e w5 ⟨rfl, be⟩
    have b4 : Boxed w5 (w.heap.size + 1) 4 (.bool false) := (be.block _ b0.lt).trans b0
    have c5 := b4.cell
    have z5 := b4.frozen
    have hK5 := (be.block _ (Array.getElem?_eq_some_iff.1 hK).1).trans hK
    have HR := hid (b4.set (.bool true))
    have HBR := hid (show Below w.heap.size w (w5.setCell ⟨w.heap.size + 1, 0, none⟩ (.bool true)) from (HBV.out.trans (be.mono HBV.out.size)).setCell (Nat.le_succ _) _)
    have hK6 : (w5.setCell ⟨w.heap.size + 1, 0, none⟩ (.bool true)).heap[D]? = some (.deferred (some [])) := (Below.heap_setCell _ _ _ D (show D ≠ w.heap.size + 1 by omega)).trans hK5
    clear be b4 b0
    gi_wp2
    refine ⟨by simp, .inl ⟨_, _, rfl, run_takeDeferred hK6, ?_⟩⟩
    exact ⟨_, results_bool rfl _ _ _ _ rfl ((Own.from (boxed_own (w.heap.size + 1) 4 (fun _ : Unit => .bool true)) D).putObj (s := ()) _ HR.out (Nat.le_refl _) hK6 rfl), rfl, HBR.out.trans (belowK_b (w := w) (Nat.le_refl _) _ D _ _ (by omega) hK6 rfl rfl)⟩
  case stop =>
    rintro D c pre V _ _ h _
    exact h.elim
theorem whole_main (l : List UInt8) (w : World) (ht : Tb w) (hv : Ev.Tbs tabs w) :
    Calls Tryd.prog 8 #[.string ⟨l.toArray⟩] w fun e W' => e = .returned (.bool true) ∧ Below w.heap.size w W' := callsIn_wide.1 (whole_in l w ht hv)
end Go.Proofs.YtkophiklkgefnaaDoor.Ln
