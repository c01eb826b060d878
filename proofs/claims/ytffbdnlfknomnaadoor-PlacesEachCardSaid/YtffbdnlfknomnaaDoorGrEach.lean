/- The iterator of Each (package grapheme): it hands on the letters of a text, one behind the other; a law for a range over it whose body may leave. -/
import Derived.Test.YtffbdnlfknomnaaDoorGrFst
namespace Go.Proofs.YtffbdnlfknomnaaDoor.Wt
open Go.RowKit Go.Shelf
attribute [local go_sem] Oper.semAt_some

theorem gfs_bd (l : List UInt8) (h : l ≠ []) : 0 < gfs l ∧ gfs l ≤ l.length := by
  have hn : 0 < (rl l).length := by rw [rl_cons l h]; simp
  have hb := fstC_bd (gcs l) (fun e => by have := gcs_len l; rw [e] at this; simp only [List.length_nil] at this; omega)
  rw [gcs_len] at hb
  unfold gfs
  refine ⟨?_, pos_le l _ hb.2⟩
  have := pos_mono l (fstC (gcs l)) 0 (by omega)
  rw [Nat.zero_add, pos_0] at this
  omega
theorem gst (l : List UInt8) (p : Nat) (h : p < l.length) : p < p + gfs (l.drop p) ∧ p + gfs (l.drop p) ≤ l.length := by
  have h1 := gfs_bd (l.drop p) (drop_ne l p h)
  rw [List.length_drop] at h1
  omega
/-- The places of letters that stand one behind the other. -/
def plc : Nat → List (List (Nat × Nat)) → List (Nat × Nat)
  | _, [] => []
  | p, x :: L => (p, p + psm x) :: plc (p + psm x) L
theorem plc_app : ∀ (A B : List (List (Nat × Nat))) (p : Nat), plc p (A ++ B) = plc p A ++ plc (p + psm A.flatten) B
  | [], B, p => by simp [plc, psm]
  | x :: A, B, p => by
    rw [List.cons_append, plc, plc_app A B, plc, List.flatten_cons, psm_app, List.cons_append, Nat.add_assoc]
theorem plc_len : ∀ (A : List (List (Nat × Nat))) (p : Nat), (plc p A).length = A.length
  | [], _ => rfl
  | x :: A, p => by rw [plc, List.length_cons, List.length_cons, plc_len A]
/-- The letters of a text from a place on. -/
def gpF (l : List UInt8) (p : Nat) : List (Nat × Nat) := plc p (pcl gc (rl (l.drop p)))
theorem gp_end (l : List UInt8) (p : Nat) (h : ¬ p < l.length) : gpF l p = [] := by
  unfold gpF
  rw [List.drop_of_length_le (by omega)]; rfl
theorem gp_step (l : List UInt8) (p : Nat) (h : p < l.length) : gpF l p = (p, p + gfs (l.drop p)) :: gpF l (p + gfs (l.drop p)) := by
  have hne := drop_ne l p h
  have hrn : rl (l.drop p) ≠ [] := by rw [rl_cons _ hne]; simp
  have hb := fst_bd gc (rl (l.drop p)) hrn
  unfold gpF
  rw [pcl_cons gc _ hrn, plc]
  have e1 : psm ((rl (l.drop p)).take (fstC ((rl (l.drop p)).map gc))) = gfs (l.drop p) := rfl
  have e2 : rl (l.drop (p + gfs (l.drop p))) = (rl (l.drop p)).drop (fstC ((rl (l.drop p)).map gc)) := by
    rw [← List.drop_drop]
    exact rl_drop (l.drop p) _ hb.2
  rw [e1, ← e2]
/-- A piece of a text. -/
structure Pl (l : List UInt8) where
  v : Nat × Nat
  lt : v.1 < v.2
  le : v.2 ≤ l.length
theorem gp_all (l : List UInt8) : ∀ (n p : Nat), l.length - p ≤ n → ∃ L : List (Pl l), L.map Pl.v = gpF l p ∧ L.length ≤ l.length - p
  | n, p, hn => by
    by_cases h : p < l.length
    · have h1 := gst l p h
      cases n with
      | zero => omega
      | succ n =>
        obtain ⟨L, hL, hLl⟩ := gp_all l n (p + gfs (l.drop p)) (by omega)
        exact ⟨⟨(p, p + gfs (l.drop p)), h1.1, h1.2⟩ :: L, by rw [gp_step l p h, List.map_cons, hL], by rw [List.length_cons]; omega⟩
    · exact ⟨[], by rw [gp_end l p h]; rfl, by simp⟩
def encP {l : List UInt8} (x : Pl l) : Array Value := #[.int .i64 (x.v.1 : Nat), .int .i64 (x.v.2 : Nat)]
set_option maxHeartbeats 2000000 in
theorem geach_stops (n : Nat) (hn : 1 ≤ n) (Bs : Nat) (l : List UInt8) (L : List (Pl l)) (hL : L.map Pl.v = gpF l 0) (w : World) (hR : WaAt Bs l w) (hl : l.length ≤ 1000000000) :
    SeqStopsK Fence.wide n Tryd.prog 83 #[.pointer (some ⟨Bs, 0, none⟩)] encP (KrW (KW Bs)) (fun xs => xs = L) (fun pre => pre <+: L) L.length w := fun lp J Jx W hbW hJ hJx hY h0 => by
  have HRW := hid (hR.below hbW)
  have hcW := HRW.out.bs.cell
  have HLL := hid hL
  clear hR hbW hL
  refine callsIn_of_wp Tryd.func83 rfl trivial ?_ rfl
  simp only [Tryd.ntmps83, List.size_toArray, List.length_cons, List.length_nil, Nat.reduceAdd, Nat.reduceSub, Array.replicate_succ, Array.replicate_zero, List.push_toArray, List.append_toArray, List.nil_append, List.cons_append]
  gi_wp2
  gi_loopw [3] (fun v wr => ∃ (p : Nat) (pre rest : List (Pl l)), v = .int .i64 p ∧ p ≤ l.length ∧ Hid (rest.map Pl.v = gpF l p) ∧ Hid (L = pre ++ rest) ∧ Hid (J pre wr) ∧ Hid (WaAt Bs l wr)) (fun v _ => l.length - (intOf v).toNat)
  case atStart => exact ⟨0, [], L, rfl, Nat.zero_le _, HLL, rfl, h0, HRW⟩
  case round =>
    obtain ⟨p, pre, rest, rfl, hp, HC, HP, HJ, HR⟩ := hrel
    clear hcW
    have hc := HR.out.bs.cell
    by_cases hlt : p < l.length
    · have hlti : (p : Int) < (l.length : Int) := by omega
      obtain ⟨hb1, hb2⟩ := gst l p hlt
      have HDN := hid (drop_ne l p hlt)
      have HDL := hid (show (l.drop p).length ≤ 1000000000 by rw [List.length_drop]; omega)
      obtain ⟨x, R, rfl⟩ : ∃ x R, rest = x :: R := by
        cases rest with
        | nil => have h1 := HC.out; rw [gp_step l p hlt] at h1; cases h1
        | cons x R => exact ⟨x, R, rfl⟩
      have hx := HC.out
      rw [gp_step l p hlt, List.map_cons] at hx
      have HX := hid (List.cons.inj hx).1
      have HRR := hid (List.cons.inj hx).2
      clear hx HC
      gi_wp2_with fail
      rw [ext_drop]
      refine ⟨trivial, (callsIn_wide.2 (gfirst_any (l.drop p) wr HR.out.tb HDL.out HDN.out)).mono ?_⟩
      rintro e w1 ⟨rfl, be1⟩
      have HJ1 := hid (hJ pre wr w1 none HJ.out (wgrown be1) (fun r e => by cases e))
      have HR1 := hid (HR.out.below be1)
      obtain ⟨q, hq⟩ : ∃ q, q = gfs (l.drop p) := ⟨_, rfl⟩
      rw [← hq] at hb1 hb2 HX HRR
      rw [← hq]
      clear be1 hq HJ HR hc
      have HP2 := hid (show L = (pre ++ [x]) ++ R by rw [HP.out, List.append_assoc]; rfl)
      obtain ⟨fn, tmps, assign, body, hy, hRR⟩ := hY pre x w1 HJ1.out (by rw [HP2.out]; simp)
      dsimp only [encP] at hy
      rw [HX.out] at hy
      simp only [Int.natCast_add] at hy
      clear hY
      gi_wp2
      refine hRR.mono ?_
      rintro e W3 (⟨rfl, hJ3, hk3⟩ | ⟨rfl, hJx3⟩)
      · have HJ3 := hid hJ3
        have HR3 := hid (HR1.out.keeps hk3.1.size hk3.2)
        clear hJ3 hk3
        gi_wp2
        go_roundw
        case rel => exact ⟨p + q, pre ++ [x], R, by rw [Int.natCast_add], hb2, HRR, HP2, HJ3, HR3⟩
        case measure => simp [intOf]; omega
      · have HJX := hid hJx3
        clear hJx3
        gi_wp2
        refine bodyPost_ret (results_none rfl _ _ _) rfl ?_
        exact ⟨⟨_, rfl⟩, .inr ⟨pre ++ [x], ⟨R, by rw [HP2.out]⟩, HJX.out⟩⟩
    · have hlti : ¬ (p : Int) < (l.length : Int) := by omega
      have HE := hid (show L = pre by
        cases rest with
        | nil => rw [HP.out, List.append_nil]
        | cons x R => have h1 := HC.out; rw [gp_end l p hlt] at h1; cases h1)
      gi_wp2
      go_end0
      exact ⟨⟨_, rfl⟩, .inl (by rw [HE.out]; exact HJ.out)⟩
theorem geach_any (l : List UInt8) (w : World) :
    Calls Tryd.prog 61 #[.string ⟨l.toArray⟩] w fun e w' => e = .returned (.func (.func 83) #[] #[.pointer (some ⟨w.heap.size, 0, none⟩)]) ∧ w' = w.alloc (.cells #[.string ⟨l.toArray⟩] 9) := by
  go_enter Tryd.func61, Tryd.ntmps61
  go_wp2
  go_ret
  exact ⟨rfl, rfl⟩
/-- What a body does: blocks of S alone may be others, and they are boxes. -/
structure BS (S : Nat → Prop) (W W' : World) : Prop where
  os : W'.os = W.os
  tape : W'.tape = W.tape
  output : W'.output = W.output
  size : W.heap.size ≤ W'.heap.size
  block : ∀ k, k < W.heap.size → ¬ S k → W'.heap[k]? = W.heap[k]?
  others : KeepsOthers W W'
theorem BS.refl (S : Nat → Prop) (W : World) : BS S W W := ⟨rfl, rfl, rfl, Nat.le_refl _, fun _ _ _ => rfl, KeepsOthers.refl W⟩
theorem BS.trans {S : Nat → Prop} {A B C : World} (h : BS S A B) (k : BS S B C) : BS S A C :=
  ⟨k.os.trans h.os, k.tape.trans h.tape, k.output.trans h.output, Nat.le_trans h.size k.size, fun i hi hs => (k.block i (Nat.lt_of_lt_of_le hi h.size) hs).trans (h.block i hi hs), ⟨Nat.le_trans h.size k.size, fun i o hi ho => k.others.same i o (h.others.same i o hi ho) ho⟩⟩
theorem BS.below {S : Nat → Prop} {W W' : World} (h : Below W.heap.size W W') : BS S W W' :=
  ⟨h.os, h.tape, h.output, h.size, fun k hk _ => h.block k hk, ⟨h.size, fun k _ hk _ => (h.block k (Array.getElem?_eq_some_iff.1 hk).1).trans hk⟩⟩
theorem BS.set {S : Nat → Prop} (W : World) (B : Nat) (v : Value) (hB : S B) : BS S W (W.setCell ⟨B, 0, none⟩ v) :=
  have g := grownBy_setCell' W B v
  ⟨g.os, g.tape, g.output, g.size, fun k hk hs => g.block k hk (fun e => hs (by cases e; exact hB)), KeepsOthers.setCell W _ v⟩
theorem BS.lower {S : Nat → Prop} {W W' : World} (h : BS S W W') (B : Nat) (hB : ∀ k, S k → B ≤ k) (hs : B ≤ W.heap.size) : Below B W W' :=
  ⟨h.os, h.tape, h.output, h.size, fun k hk => h.block k (Nat.lt_of_lt_of_le hk hs) (fun e => by have := hB k e; omega)⟩
end Go.Proofs.YtffbdnlfknomnaaDoor.Wt
