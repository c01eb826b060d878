/- The contract of appendForm (package fold). -/
import Derived.Test.YtdcfflnjkjnodaaGreatDoorFoLook
namespace Go.Proofs.YtdcfflnjkjnodaaGreatDoor
open Go.RowKit
namespace Fo
/-- The letters in memory. -/
structure LtAt (w : World) (p g K : Nat) : Prop where
  box : w.heap[p]? = some (.cells #[.slice (some ⟨g, 0, none⟩) 23 23, .map (some K)] 50 (0, 0))
  prs : RdL w g
  map : w.heap[K]? = some (.map ⟨spE⟩ 17)
theorem LtAt.keep {w w' : World} {p g K : Nat} (h : LtAt w p g K) (k : KO w w') : LtAt w' p g K :=
  ⟨k p _ h.box (fun _ _ e => by cases e), k g _ h.prs (fun _ _ e => by cases e), k K _ h.map (fun _ _ e => by cases e)⟩
theorem LtAt.cells {w : World} {p g K : Nat} (h : LtAt w p g K) : w.cell? ⟨p, 0, none⟩ = some (.slice (some ⟨g, 0, none⟩) 23 23) ∧ w.cell? ⟨p, 1, none⟩ = some (.map (some K)) := by
  have := h.box
  refine ⟨?_, ?_⟩ <;> simp [World.cell?, this]
def pk (x : Fm) : Nat → List Int
  | 0 => x.1
  | 1 => x.2.1
  | 2 => x.2.2.1
  | _ => x.2.2.2
def ens (l : List Int) : List UInt8 := l.flatMap Lib.encodeRune
/-- A rune's form, in bytes. -/
def fbs (l : List UInt8) (r : Int) (k : Nat) : List UInt8 := match spF r with
  | some x => ens (pk x k)
  | none => arn l r (if k = 0 ∨ k = 3 then (ofR r).1 else (ofR r).2)
def fmOk (f : List Int) : Bool := decide (f.length ≤ 3) && f.all fun c => decide (0 ≤ c) && decide (c ≤ 1114111)
theorem sp_ok : ∀ x ∈ spT, fmOk x.2.1 = true ∧ fmOk x.2.2.1 = true ∧ fmOk x.2.2.2.1 = true ∧ fmOk x.2.2.2.2 = true := fun x hx => by
  have h := List.all_eq_true.1 (show (spT.all fun x => fmOk x.2.1 && fmOk x.2.2.1 && fmOk x.2.2.2.1 && fmOk x.2.2.2.2) = true by kernel_rfl) x hx
  simp only [Bool.and_eq_true] at h
  exact ⟨h.1.1.1, h.1.1.2, h.1.2, h.2⟩
theorem spF_ok {r : Int} {x : Fm} (h : spF r = some x) (k : Nat) : fmOk (pk x k) = true := by
  unfold spF at h
  obtain ⟨y, hy, rfl⟩ := Option.map_eq_some_iff.1 h
  obtain ⟨h1, h2, h3, h4⟩ := sp_ok y (List.mem_of_find?_eq_some hy)
  match k with
  | 0 => exact h1
  | 1 => exact h2
  | 2 => exact h3
  | (k + 3) => exact h4
theorem fm_at {f : List Int} (h : fmOk f = true) : f.length ≤ 3 ∧ ∀ i, i < f.length → 0 ≤ f.getD i 0 ∧ f.getD i 0 ≤ 1114111 := by
  simp only [fmOk, Bool.and_eq_true, decide_eq_true_eq, List.all_eq_true] at h
  refine ⟨h.1, fun i hi => ?_⟩
  have := h.2 (f.getD i 0) (by simp [List.getD, hi])
  exact this
theorem ens_snoc (f : List Int) (i : Nat) (hi : i < f.length) : ens (f.take (i + 1)) = ens (f.take i) ++ Lib.encodeRune (f.getD i 0) := by
  rw [List.take_succ_eq_append_getElem hi]
  unfold ens
  rw [List.flatMap_append]
  simp [List.getD, hi]
theorem ens_len {f : List Int} : (ens f).length ≤ 4 * f.length := by
  induction f with
  | nil => simp [ens]
  | cons a t ih =>
    have := (Lib.runeCells_le a).2
    rw [Lib.runeCells_length] at this
    simp only [ens, List.flatMap_cons, List.length_append, List.length_cons] at ih ⊢
    omega
/-- A box that holds one form. -/
theorem box_form {w w' : World} {f : List Int} {t : TypeId} (h : w'.heap[w.heap.size]? = some (.cells #[.int .i32 (f.getD 0 0), .int .i32 (f.getD 1 0), .int .i32 (f.getD 2 0), .int .i64 (f.length : Int)] t (0, 0))) (i : Nat) (hi : i < f.length) (hf : f.length ≤ 3) : w'.cell? ⟨w.heap.size, i, none⟩ = some (.int .i32 (f.getD i 0)) := by
  have : i = 0 ∨ i = 1 ∨ i = 2 := by omega
  rcases this with rfl | rfl | rfl <;> simp [World.cell?, h]
set_option maxHeartbeats 8000000 in
set_option maxRecDepth 100000 in
theorem form_sp (B p g K k : Nat) (v : Value) (T l : List UInt8) (r : Int) (x : Fm) (w : World) (hk : k < 4) (hx : spF r = some x) (hL : LtAt w p g K) (ho : OwB B v T w) (hT : T.length ≤ 900000000) (hr0 : 0 ≤ r) (hr1 : r ≤ 1114111) (hB : B ≤ w.heap.size) :
    Calls Tryz.prog 31 #[.pointer (some ⟨p, 0, none⟩), v, .string ⟨l.toArray⟩, .int .i32 r, .int .i64 k] w fun e w' => ∃ v', e = .returned v' ∧ OwB B v' (T ++ ens (pk x k)) w' ∧ Grw B w w' := by
  have hlk := look_any K r w (by omega) (by omega) hL.map
  rw [hx] at hlk
  have hfm := fm_at (spF_ok hx k)
  obtain ⟨a, b, c, d⟩ := x
  obtain ⟨p0, p1⟩ := hL.cells
  have HL := hid hL
  have HO := hid ho
  clear hL ho hx
  obtain ⟨f, hf⟩ : ∃ f, f = pk (a, b, c, d) k := ⟨_, rfl⟩
  rw [← hf] at hfm ⊢
  obtain ⟨hf3, hfc⟩ := hfm
  have HFC := hid hfc
  clear hfc
  obtain ⟨a0, ea0⟩ : ∃ y, y = a.getD 0 0 := ⟨_, rfl⟩
  obtain ⟨a1, ea1⟩ : ∃ y, y = a.getD 1 0 := ⟨_, rfl⟩
  obtain ⟨a2, ea2⟩ : ∃ y, y = a.getD 2 0 := ⟨_, rfl⟩
  obtain ⟨a3, ea3⟩ : ∃ y : Int, y = a.length := ⟨_, rfl⟩
  obtain ⟨b0, eb0⟩ : ∃ y, y = b.getD 0 0 := ⟨_, rfl⟩
  obtain ⟨b1, eb1⟩ : ∃ y, y = b.getD 1 0 := ⟨_, rfl⟩
  obtain ⟨b2, eb2⟩ : ∃ y, y = b.getD 2 0 := ⟨_, rfl⟩
  obtain ⟨b3, eb3⟩ : ∃ y : Int, y = b.length := ⟨_, rfl⟩
  obtain ⟨c0, ec0⟩ : ∃ y, y = c.getD 0 0 := ⟨_, rfl⟩
  obtain ⟨c1, ec1⟩ : ∃ y, y = c.getD 1 0 := ⟨_, rfl⟩
  obtain ⟨c2, ec2⟩ : ∃ y, y = c.getD 2 0 := ⟨_, rfl⟩
  obtain ⟨c3, ec3⟩ : ∃ y : Int, y = c.length := ⟨_, rfl⟩
  obtain ⟨d0, ed0⟩ : ∃ y, y = d.getD 0 0 := ⟨_, rfl⟩
  obtain ⟨d1, ed1⟩ : ∃ y, y = d.getD 1 0 := ⟨_, rfl⟩
  obtain ⟨d2, ed2⟩ : ∃ y, y = d.getD 2 0 := ⟨_, rfl⟩
  obtain ⟨d3, ed3⟩ : ∃ y : Int, y = d.length := ⟨_, rfl⟩
  have hlk2 : (Instr.lookup 48 (.map (some K)) (.int .i32 r) true).run Tryz.prog w = .ok (.tuple #[.agg #[.int .i32 a0, .int .i32 a1, .int .i32 a2, .int .i64 a3, .int .i32 b0, .int .i32 b1, .int .i32 b2, .int .i64 b3, .int .i32 c0, .int .i32 c1, .int .i32 c2, .int .i64 c3, .int .i32 d0, .int .i32 d1, .int .i32 d2, .int .i64 d3], .bool true]) w := by
    rw [hlk, ea0, ea1, ea2, ea3, eb0, eb1, eb2, eb3, ec0, ec1, ec2, ec3, ed0, ed1, ed2, ed3]
    rfl
  have HE := hid (And.intro hf (And.intro (And.intro ea0 (And.intro ea1 (And.intro ea2 ea3))) (And.intro (And.intro eb0 (And.intro eb1 (And.intro eb2 eb3))) (And.intro (And.intro ec0 (And.intro ec1 (And.intro ec2 ec3))) (And.intro ed0 (And.intro ed1 (And.intro ed2 ed3)))))))
  clear hlk hf ea0 ea1 ea2 ea3 eb0 eb1 eb2 eb3 ec0 ec1 ec2 ec3 ed0 ed1 ed2 ed3
  obtain rfl | rfl | rfl | rfl : k = 0 ∨ k = 1 ∨ k = 2 ∨ k = 3 := by omega
  · obtain ⟨m, hm⟩ : ∃ m : Nat, m = f.length := ⟨_, rfl⟩
    have ha3 : a3 = (m : Int) := by have := HE.out.1; rw [hm, this]; exact HE.out.2.1.2.2.2
    subst ha3
    rw [← hm] at hf3
    have HM := hid hm
    have HF0 := hid (show f.getD 0 0 = a0 by rw [HE.out.1]; exact HE.out.2.1.1.symm)
    have HF1 := hid (show f.getD 1 0 = a1 by rw [HE.out.1]; exact HE.out.2.1.2.1.symm)
    have HF2 := hid (show f.getD 2 0 = a2 by rw [HE.out.1]; exact HE.out.2.1.2.2.1.symm)
    clear hm HE
    have i1 : (0 : Int) ≤ (m : Int) := by omega
    have i2 : (m : Int) ≤ 3 := by omega
    obtain ⟨o1, ho1⟩ : ∃ o1 : Obj, o1 = .cells #[.int .i32 a0, .int .i32 a1, .int .i32 a2, .int .i64 (m : Int), .int .i32 b0, .int .i32 b1, .int .i32 b2, .int .i64 b3, .int .i32 c0, .int .i32 c1, .int .i32 c2, .int .i64 c3, .int .i32 d0, .int .i32 d1, .int .i32 d2, .int .i64 d3] 89 := ⟨_, rfl⟩
    obtain ⟨o2, ho2⟩ : ∃ o2 : Obj, o2 = .cells #[.int .i32 a0, .int .i32 a1, .int .i32 a2, .int .i64 (m : Int)] 86 := ⟨_, rfl⟩
    have HOS := hid (show OwB B v (T ++ ens (f.take 0)) ((w.alloc o1).alloc o2) by
      have := World.ownsRow.alloc (World.ownsRow.alloc HO.out o1) o2
      have e : T ++ ens (f.take 0) = T := by simp [ens]
      rw [e]
      exact this)
    have HGS := hid (show Grw B w ((w.alloc o1).alloc o2) from Grw.of_below (below_box.trans (below_box.mono (by simp))) hB)
    have HBS := hid (show ((w.alloc o1).alloc o2).heap[w.heap.size + 1]? = some o2 by
      have := World.alloc_heap_new (w.alloc o1) o2
      rwa [World.size_alloc] at this)
    rw [ho2] at HBS
    rw [ho1, ho2] at HOS HGS
    rw [ho1] at HBS
    clear ho1 ho2 o1 o2
    rw [show ((0 : Nat) : Int) = 0 from rfl]
    go_enter Tryz.func31, Tryz.ntmps31
    go_wp2
    go_loopw [1, 37] (fun v1 v37 wr => ∃ i : Nat, v37 = .int .i64 i ∧ i ≤ m ∧ Hid (OwB B v1 (T ++ ens (f.take i)) wr) ∧ Hid (Grw B w wr) ∧ Hid (wr.heap[w.heap.size + 1]? = some (.cells #[.int .i32 a0, .int .i32 a1, .int .i32 a2, .int .i64 (m : Int)] 86 (0, 0)))) (fun _ v37 _ => m - (intOf v37).toNat)
    case atStart => exact ⟨0, rfl, Nat.zero_le _, HOS, HGS, HBS⟩
    case round =>
      obtain ⟨i, rfl, hi, HOr, HGr, HBr⟩ := hrel
      by_cases hlt : i < m
      · have j0 : (0 : Int) ≤ (i : Int) := by omega
        have j1 : (i : Int) < (m : Int) := by omega
        have hil : i < f.length := by have := HM.out; omega
        obtain ⟨q0, q1⟩ := HFC.out i hil
        have cl : wr.cell? ⟨w.heap.size + 1, i, none⟩ = some (.int .i32 (f.getD i 0)) := by
          have hb := HBr.out
          have e3 : i = 0 ∨ i = 1 ∨ i = 2 := by omega
          rcases e3 with rfl | rfl | rfl
          · rw [HF0.out]; simp [World.cell?, hb]
          · rw [HF1.out]; simp [World.cell?, hb]
          · rw [HF2.out]; simp [World.cell?, hb]
        obtain ⟨y, hy⟩ : ∃ y, y = f.getD i 0 := ⟨_, rfl⟩
        rw [← hy] at cl q0 q1
        have HY := hid hy
        have HSN := hid (ens_snoc f i hil)
        have hTl : (T ++ ens (f.take i)).length ≤ 1000000000 := by
          have := ens_len (f := f.take i)
          simp only [List.length_append, List.length_take] at this ⊢
          omega
        have hBr : B ≤ wr.heap.size := Nat.le_trans hB HGr.out.below.size
        clear hy hil
        go_wp2_with fail
        refine (app_any B _ (T ++ ens (f.take i)) y q0 q1 _ HOr.out hTl hBr).mono ?_
        rintro e w2 ⟨v', rfl, h2, h3⟩
        have H2 := hid (show OwB B v' (T ++ ens (f.take (i + 1))) w2 by
          rw [HSN.out, ← HY.out, ← List.append_assoc]; exact h2)
        have H3 := hid (HGr.out.trans h3)
        have H4 := hid (h3.others _ _ HBr.out (fun _ _ e => by cases e))
        clear h2 h3 HOr HGr HBr cl
        go_wp2
        go_roundw
        case rel => exact ⟨i + 1, by go_num, by omega, H2, H3, H4⟩
        case measure => simp [intOf]; omega
      · have j1 : ¬ (i : Int) < (m : Int) := by omega
        have hT2 : f.take i = f := List.take_of_length_le (by have := HM.out; omega)
        rw [hT2] at HOr
        clear hT2
        go_wp2
        go_ret
        exact ⟨_, rfl, HOr.out, HGr.out⟩
  · obtain ⟨m, hm⟩ : ∃ m : Nat, m = f.length := ⟨_, rfl⟩
    have ha3 : b3 = (m : Int) := by have := HE.out.1; rw [hm, this]; exact HE.out.2.2.1.2.2.2
    subst ha3
    rw [← hm] at hf3
    have HM := hid hm
    have HF0 := hid (show f.getD 0 0 = b0 by rw [HE.out.1]; exact HE.out.2.2.1.1.symm)
    have HF1 := hid (show f.getD 1 0 = b1 by rw [HE.out.1]; exact HE.out.2.2.1.2.1.symm)
    have HF2 := hid (show f.getD 2 0 = b2 by rw [HE.out.1]; exact HE.out.2.2.1.2.2.1.symm)
    clear hm HE
    have i1 : (0 : Int) ≤ (m : Int) := by omega
    have i2 : (m : Int) ≤ 3 := by omega
    obtain ⟨o1, ho1⟩ : ∃ o1 : Obj, o1 = .cells #[.int .i32 a0, .int .i32 a1, .int .i32 a2, .int .i64 a3, .int .i32 b0, .int .i32 b1, .int .i32 b2, .int .i64 (m : Int), .int .i32 c0, .int .i32 c1, .int .i32 c2, .int .i64 c3, .int .i32 d0, .int .i32 d1, .int .i32 d2, .int .i64 d3] 89 := ⟨_, rfl⟩
    obtain ⟨o2, ho2⟩ : ∃ o2 : Obj, o2 = .cells #[.int .i32 b0, .int .i32 b1, .int .i32 b2, .int .i64 (m : Int)] 86 := ⟨_, rfl⟩
    have HOS := hid (show OwB B v (T ++ ens (f.take 0)) ((w.alloc o1).alloc o2) by
      have := World.ownsRow.alloc (World.ownsRow.alloc HO.out o1) o2
      have e : T ++ ens (f.take 0) = T := by simp [ens]
      rw [e]
      exact this)
    have HGS := hid (show Grw B w ((w.alloc o1).alloc o2) from Grw.of_below (below_box.trans (below_box.mono (by simp))) hB)
    have HBS := hid (show ((w.alloc o1).alloc o2).heap[w.heap.size + 1]? = some o2 by
      have := World.alloc_heap_new (w.alloc o1) o2
      rwa [World.size_alloc] at this)
    rw [ho2] at HBS
    rw [ho1, ho2] at HOS HGS
    rw [ho1] at HBS
    clear ho1 ho2 o1 o2
    rw [show ((1 : Nat) : Int) = 1 from rfl]
    go_enter Tryz.func31, Tryz.ntmps31
    go_wp2
    go_loopw [1, 37] (fun v1 v37 wr => ∃ i : Nat, v37 = .int .i64 i ∧ i ≤ m ∧ Hid (OwB B v1 (T ++ ens (f.take i)) wr) ∧ Hid (Grw B w wr) ∧ Hid (wr.heap[w.heap.size + 1]? = some (.cells #[.int .i32 b0, .int .i32 b1, .int .i32 b2, .int .i64 (m : Int)] 86 (0, 0)))) (fun _ v37 _ => m - (intOf v37).toNat)
    case atStart => exact ⟨0, rfl, Nat.zero_le _, HOS, HGS, HBS⟩
    case round =>
      obtain ⟨i, rfl, hi, HOr, HGr, HBr⟩ := hrel
      by_cases hlt : i < m
      · have j0 : (0 : Int) ≤ (i : Int) := by omega
        have j1 : (i : Int) < (m : Int) := by omega
        have hil : i < f.length := by have := HM.out; omega
        obtain ⟨q0, q1⟩ := HFC.out i hil
        have cl : wr.cell? ⟨w.heap.size + 1, i, none⟩ = some (.int .i32 (f.getD i 0)) := by
          have hb := HBr.out
          have e3 : i = 0 ∨ i = 1 ∨ i = 2 := by omega
          rcases e3 with rfl | rfl | rfl
          · rw [HF0.out]; simp [World.cell?, hb]
          · rw [HF1.out]; simp [World.cell?, hb]
          · rw [HF2.out]; simp [World.cell?, hb]
        obtain ⟨y, hy⟩ : ∃ y, y = f.getD i 0 := ⟨_, rfl⟩
        rw [← hy] at cl q0 q1
        have HY := hid hy
        have HSN := hid (ens_snoc f i hil)
        have hTl : (T ++ ens (f.take i)).length ≤ 1000000000 := by
          have := ens_len (f := f.take i)
          simp only [List.length_append, List.length_take] at this ⊢
          omega
        have hBr : B ≤ wr.heap.size := Nat.le_trans hB HGr.out.below.size
        clear hy hil
        go_wp2_with fail
        refine (app_any B _ (T ++ ens (f.take i)) y q0 q1 _ HOr.out hTl hBr).mono ?_
        rintro e w2 ⟨v', rfl, h2, h3⟩
        have H2 := hid (show OwB B v' (T ++ ens (f.take (i + 1))) w2 by
          rw [HSN.out, ← HY.out, ← List.append_assoc]; exact h2)
        have H3 := hid (HGr.out.trans h3)
        have H4 := hid (h3.others _ _ HBr.out (fun _ _ e => by cases e))
        clear h2 h3 HOr HGr HBr cl
        go_wp2
        go_roundw
        case rel => exact ⟨i + 1, by go_num, by omega, H2, H3, H4⟩
        case measure => simp [intOf]; omega
      · have j1 : ¬ (i : Int) < (m : Int) := by omega
        have hT2 : f.take i = f := List.take_of_length_le (by have := HM.out; omega)
        rw [hT2] at HOr
        clear hT2
        go_wp2
        go_ret
        exact ⟨_, rfl, HOr.out, HGr.out⟩
  · obtain ⟨m, hm⟩ : ∃ m : Nat, m = f.length := ⟨_, rfl⟩
    have ha3 : c3 = (m : Int) := by have := HE.out.1; rw [hm, this]; exact HE.out.2.2.2.1.2.2.2
    subst ha3
    rw [← hm] at hf3
    have HM := hid hm
    have HF0 := hid (show f.getD 0 0 = c0 by rw [HE.out.1]; exact HE.out.2.2.2.1.1.symm)
    have HF1 := hid (show f.getD 1 0 = c1 by rw [HE.out.1]; exact HE.out.2.2.2.1.2.1.symm)
    have HF2 := hid (show f.getD 2 0 = c2 by rw [HE.out.1]; exact HE.out.2.2.2.1.2.2.1.symm)
    clear hm HE
    have i1 : (0 : Int) ≤ (m : Int) := by omega
    have i2 : (m : Int) ≤ 3 := by omega
    obtain ⟨o1, ho1⟩ : ∃ o1 : Obj, o1 = .cells #[.int .i32 a0, .int .i32 a1, .int .i32 a2, .int .i64 a3, .int .i32 b0, .int .i32 b1, .int .i32 b2, .int .i64 b3, .int .i32 c0, .int .i32 c1, .int .i32 c2, .int .i64 (m : Int), .int .i32 d0, .int .i32 d1, .int .i32 d2, .int .i64 d3] 89 := ⟨_, rfl⟩
    obtain ⟨o2, ho2⟩ : ∃ o2 : Obj, o2 = .cells #[.int .i32 c0, .int .i32 c1, .int .i32 c2, .int .i64 (m : Int)] 86 := ⟨_, rfl⟩
    have HOS := hid (show OwB B v (T ++ ens (f.take 0)) ((w.alloc o1).alloc o2) by
      have := World.ownsRow.alloc (World.ownsRow.alloc HO.out o1) o2
      have e : T ++ ens (f.take 0) = T := by simp [ens]
      rw [e]
      exact this)
    have HGS := hid (show Grw B w ((w.alloc o1).alloc o2) from Grw.of_below (below_box.trans (below_box.mono (by simp))) hB)
    have HBS := hid (show ((w.alloc o1).alloc o2).heap[w.heap.size + 1]? = some o2 by
      have := World.alloc_heap_new (w.alloc o1) o2
      rwa [World.size_alloc] at this)
    rw [ho2] at HBS
    rw [ho1, ho2] at HOS HGS
    rw [ho1] at HBS
    clear ho1 ho2 o1 o2
    rw [show ((2 : Nat) : Int) = 2 from rfl]
    go_enter Tryz.func31, Tryz.ntmps31
    go_wp2
    go_loopw [1, 37] (fun v1 v37 wr => ∃ i : Nat, v37 = .int .i64 i ∧ i ≤ m ∧ Hid (OwB B v1 (T ++ ens (f.take i)) wr) ∧ Hid (Grw B w wr) ∧ Hid (wr.heap[w.heap.size + 1]? = some (.cells #[.int .i32 c0, .int .i32 c1, .int .i32 c2, .int .i64 (m : Int)] 86 (0, 0)))) (fun _ v37 _ => m - (intOf v37).toNat)
    case atStart => exact ⟨0, rfl, Nat.zero_le _, HOS, HGS, HBS⟩
    case round =>
      obtain ⟨i, rfl, hi, HOr, HGr, HBr⟩ := hrel
      by_cases hlt : i < m
      · have j0 : (0 : Int) ≤ (i : Int) := by omega
        have j1 : (i : Int) < (m : Int) := by omega
        have hil : i < f.length := by have := HM.out; omega
        obtain ⟨q0, q1⟩ := HFC.out i hil
        have cl : wr.cell? ⟨w.heap.size + 1, i, none⟩ = some (.int .i32 (f.getD i 0)) := by
          have hb := HBr.out
          have e3 : i = 0 ∨ i = 1 ∨ i = 2 := by omega
          rcases e3 with rfl | rfl | rfl
          · rw [HF0.out]; simp [World.cell?, hb]
          · rw [HF1.out]; simp [World.cell?, hb]
          · rw [HF2.out]; simp [World.cell?, hb]
        obtain ⟨y, hy⟩ : ∃ y, y = f.getD i 0 := ⟨_, rfl⟩
        rw [← hy] at cl q0 q1
        have HY := hid hy
        have HSN := hid (ens_snoc f i hil)
        have hTl : (T ++ ens (f.take i)).length ≤ 1000000000 := by
          have := ens_len (f := f.take i)
          simp only [List.length_append, List.length_take] at this ⊢
          omega
        have hBr : B ≤ wr.heap.size := Nat.le_trans hB HGr.out.below.size
        clear hy hil
        go_wp2_with fail
        refine (app_any B _ (T ++ ens (f.take i)) y q0 q1 _ HOr.out hTl hBr).mono ?_
        rintro e w2 ⟨v', rfl, h2, h3⟩
        have H2 := hid (show OwB B v' (T ++ ens (f.take (i + 1))) w2 by
          rw [HSN.out, ← HY.out, ← List.append_assoc]; exact h2)
        have H3 := hid (HGr.out.trans h3)
        have H4 := hid (h3.others _ _ HBr.out (fun _ _ e => by cases e))
        clear h2 h3 HOr HGr HBr cl
        go_wp2
        go_roundw
        case rel => exact ⟨i + 1, by go_num, by omega, H2, H3, H4⟩
        case measure => simp [intOf]; omega
      · have j1 : ¬ (i : Int) < (m : Int) := by omega
        have hT2 : f.take i = f := List.take_of_length_le (by have := HM.out; omega)
        rw [hT2] at HOr
        clear hT2
        go_wp2
        go_ret
        exact ⟨_, rfl, HOr.out, HGr.out⟩
  · obtain ⟨m, hm⟩ : ∃ m : Nat, m = f.length := ⟨_, rfl⟩
    have ha3 : d3 = (m : Int) := by have := HE.out.1; rw [hm, this]; exact HE.out.2.2.2.2.2.2.2
    subst ha3
    rw [← hm] at hf3
    have HM := hid hm
    have HF0 := hid (show f.getD 0 0 = d0 by rw [HE.out.1]; exact HE.out.2.2.2.2.1.symm)
    have HF1 := hid (show f.getD 1 0 = d1 by rw [HE.out.1]; exact HE.out.2.2.2.2.2.1.symm)
    have HF2 := hid (show f.getD 2 0 = d2 by rw [HE.out.1]; exact HE.out.2.2.2.2.2.2.1.symm)
    clear hm HE
    have i1 : (0 : Int) ≤ (m : Int) := by omega
    have i2 : (m : Int) ≤ 3 := by omega
    obtain ⟨o1, ho1⟩ : ∃ o1 : Obj, o1 = .cells #[.int .i32 a0, .int .i32 a1, .int .i32 a2, .int .i64 a3, .int .i32 b0, .int .i32 b1, .int .i32 b2, .int .i64 b3, .int .i32 c0, .int .i32 c1, .int .i32 c2, .int .i64 c3, .int .i32 d0, .int .i32 d1, .int .i32 d2, .int .i64 (m : Int)] 89 := ⟨_, rfl⟩
    obtain ⟨o2, ho2⟩ : ∃ o2 : Obj, o2 = .cells #[.int .i32 d0, .int .i32 d1, .int .i32 d2, .int .i64 (m : Int)] 86 := ⟨_, rfl⟩
    have HOS := hid (show OwB B v (T ++ ens (f.take 0)) ((w.alloc o1).alloc o2) by
      have := World.ownsRow.alloc (World.ownsRow.alloc HO.out o1) o2
      have e : T ++ ens (f.take 0) = T := by simp [ens]
      rw [e]
      exact this)
    have HGS := hid (show Grw B w ((w.alloc o1).alloc o2) from Grw.of_below (below_box.trans (below_box.mono (by simp))) hB)
    have HBS := hid (show ((w.alloc o1).alloc o2).heap[w.heap.size + 1]? = some o2 by
      have := World.alloc_heap_new (w.alloc o1) o2
      rwa [World.size_alloc] at this)
    rw [ho2] at HBS
    rw [ho1, ho2] at HOS HGS
    rw [ho1] at HBS
    clear ho1 ho2 o1 o2
    rw [show ((3 : Nat) : Int) = 3 from rfl]
    go_enter Tryz.func31, Tryz.ntmps31
    go_wp2
    go_loopw [1, 37] (fun v1 v37 wr => ∃ i : Nat, v37 = .int .i64 i ∧ i ≤ m ∧ Hid (OwB B v1 (T ++ ens (f.take i)) wr) ∧ Hid (Grw B w wr) ∧ Hid (wr.heap[w.heap.size + 1]? = some (.cells #[.int .i32 d0, .int .i32 d1, .int .i32 d2, .int .i64 (m : Int)] 86 (0, 0)))) (fun _ v37 _ => m - (intOf v37).toNat)
    case atStart => exact ⟨0, rfl, Nat.zero_le _, HOS, HGS, HBS⟩
    case round =>
      obtain ⟨i, rfl, hi, HOr, HGr, HBr⟩ := hrel
      by_cases hlt : i < m
      · have j0 : (0 : Int) ≤ (i : Int) := by omega
        have j1 : (i : Int) < (m : Int) := by omega
        have hil : i < f.length := by have := HM.out; omega
        obtain ⟨q0, q1⟩ := HFC.out i hil
        have cl : wr.cell? ⟨w.heap.size + 1, i, none⟩ = some (.int .i32 (f.getD i 0)) := by
          have hb := HBr.out
          have e3 : i = 0 ∨ i = 1 ∨ i = 2 := by omega
          rcases e3 with rfl | rfl | rfl
          · rw [HF0.out]; simp [World.cell?, hb]
          · rw [HF1.out]; simp [World.cell?, hb]
          · rw [HF2.out]; simp [World.cell?, hb]
        obtain ⟨y, hy⟩ : ∃ y, y = f.getD i 0 := ⟨_, rfl⟩
        rw [← hy] at cl q0 q1
        have HY := hid hy
        have HSN := hid (ens_snoc f i hil)
        have hTl : (T ++ ens (f.take i)).length ≤ 1000000000 := by
          have := ens_len (f := f.take i)
          simp only [List.length_append, List.length_take] at this ⊢
          omega
        have hBr : B ≤ wr.heap.size := Nat.le_trans hB HGr.out.below.size
        clear hy hil
        go_wp2_with fail
        refine (app_any B _ (T ++ ens (f.take i)) y q0 q1 _ HOr.out hTl hBr).mono ?_
        rintro e w2 ⟨v', rfl, h2, h3⟩
        have H2 := hid (show OwB B v' (T ++ ens (f.take (i + 1))) w2 by
          rw [HSN.out, ← HY.out, ← List.append_assoc]; exact h2)
        have H3 := hid (HGr.out.trans h3)
        have H4 := hid (h3.others _ _ HBr.out (fun _ _ e => by cases e))
        clear h2 h3 HOr HGr HBr cl
        go_wp2
        go_roundw
        case rel => exact ⟨i + 1, by go_num, by omega, H2, H3, H4⟩
        case measure => simp [intOf]; omega
      · have j1 : ¬ (i : Int) < (m : Int) := by omega
        have hT2 : f.take i = f := List.take_of_length_le (by have := HM.out; omega)
        rw [hT2] at HOr
        clear hT2
        go_wp2
        go_ret
        exact ⟨_, rfl, HOr.out, HGr.out⟩
end Fo
end Go.Proofs.YtdcfflnjkjnodaaGreatDoor
