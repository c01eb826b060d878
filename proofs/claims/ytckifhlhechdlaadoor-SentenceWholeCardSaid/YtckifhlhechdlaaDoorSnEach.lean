/- The contracts of Each and of its iterator (package sentence): it hands on pieces, each of which lies between two bounds. -/
import Derived.Test.YtckifhlhechdlaaDoorSnNext
import Derived.Test.YtckifhlhechdlaaDoorURunes
namespace Go.Proofs.YtckifhlhechdlaaDoor
open Go.RowKit Go.Shelf
attribute [local go_sem] Oper.semAt_some

/-- A piece of a text, by the numbers of runes ahead of its two ends, which are bounds. -/
def Pc (s : List UInt8) : Type := {x : Nat × Nat // x.1 < x.2 ∧ x.2 ≤ (rl s).length ∧ (x.1 = 0 ∨ scut s (pos s x.1) = true) ∧ (x.2 = (rl s).length ∨ scut s (pos s x.2) = true)}
/-- The pieces that follow one another from a bound to the text's end. -/
def Chn (s : List UInt8) : Nat → List (Pc s) → Prop
  | i, [] => i = (rl s).length
  | i, x :: L => x.1.1 = i ∧ snx s (pos s i) = pos s x.1.2 ∧ Chn s x.1.2 L
theorem chn_all (s : List UInt8) : ∀ (n i : Nat), (rl s).length - i ≤ n → i ≤ (rl s).length → (i = (rl s).length ∨ i = 0 ∨ scut s (pos s i) = true) → ∃ L, Chn s i L ∧ L.length ≤ (rl s).length - i
  | n, i, hn, hi, hc => by
    rcases Nat.lt_or_ge i (rl s).length with h | h
    · obtain ⟨k, h1, h2, h3, h4⟩ := snx_pos s i h
      have hci : i = 0 ∨ scut s (pos s i) = true := by
        rcases hc with hc | hc | hc
        · omega
        · exact .inl hc
        · exact .inr hc
      cases n with
      | zero => omega
      | succ n =>
        obtain ⟨L, hL, hLl⟩ := chn_all s n k (by omega) h2 (by rcases h4 with h4 | h4; exact .inl h4; exact .inr (.inr h4))
        exact ⟨⟨(i, k), h1, h2, hci, h4⟩ :: L, ⟨rfl, h3, hL⟩, by show L.length + 1 ≤ _; omega⟩
    · exact ⟨[], show i = _ by omega, by simp⟩
theorem chn_le (s : List UInt8) : ∀ (i : Nat) (L : List (Pc s)), Chn s i L → i ≤ (rl s).length
  | i, [], h => Nat.le_of_eq h
  | i, x :: L, h => by
    have h1 := x.2.1
    have h2 := x.2.2.1
    rw [← h.1]; omega
/-- The end of the last piece. -/
def lstF {s : List UInt8} (i : Nat) (pre : List (Pc s)) : Nat := pre.foldl (fun _ y => y.1.2) i
theorem lstF_snoc {s : List UInt8} (i : Nat) (pre : List (Pc s)) (x : Pc s) : lstF i (pre ++ [x]) = x.1.2 := by simp [lstF]
theorem chn_app (s : List UInt8) : ∀ (pre : List (Pc s)) (i : Nat) (R : List (Pc s)), Chn s i (pre ++ R) → Chn s (lstF i pre) R
  | [], _, _, h => h
  | x :: pre, _, R, h => chn_app s pre x.1.2 R h.2.2
theorem chn_end (s : List UInt8) (L : List (Pc s)) (h : Chn s 0 L) : lstF 0 L = (rl s).length := by
  have h1 := chn_app s L 0 [] (by rw [List.append_nil]; exact h)
  exact h1
theorem chn_from (s : List UInt8) (L pre : List (Pc s)) (x : Pc s) (h : Chn s 0 L) (hp : pre ++ [x] <+: L) : x.1.1 = lstF 0 pre := by
  obtain ⟨R, rfl⟩ := hp
  rw [List.append_assoc] at h
  exact (chn_app s pre 0 ([x] ++ R) h).1
/-- What a body must leave as it was: the walks, and some blocks. -/
def KrW (K : Nat → Prop) (W W' : World) : Prop := KeepsWalks W W' ∧ ∀ k, K k → W'.heap[k]? = W.heap[k]?
theorem KrW_t {K : Nat → Prop} {A B C : World} (h : KrW K A B) (k : KrW K B C) : KrW K A C := ⟨h.1.trans k.1, fun i h1 => (k.2 i h1).trans (h.2 i h1)⟩
theorem KrW_b {K : Nat → Prop} {w : World} (hw : ∀ k, K k → k < w.heap.size) (W : World) (l : Nat) (o o' : Obj) (hl : w.heap.size ≤ l) (h : W.heap[l]? = some o) (_ : o.isCells = false) (hk : o.isWalk = false) : KrW K W (W.putObj l o') :=
  ⟨KeepsWalks.putObj _ h hk, fun k h2 => World.putObj_heap_other (by have := hw k h2; omega)⟩
theorem wgrown {w w' : World} (h : Below w.heap.size w w') : w.grownBy w' none := ⟨h.os, h.tape, h.output, h.size, fun k hk _ => h.block k hk⟩
/-- The blocks that the iterator of Each reads. -/
def KW (Bs k : Nat) : Prop := k = Bs ∨ k < 2
/-- What the iterator has caught: the text; and the tables. -/
structure WaAt (Bs : Nat) (l : List UInt8) (w : World) : Prop where
  bs : Boxed w Bs 9 (.string ⟨l.toArray⟩)
  tb : TbW w
theorem WaAt.lt {Bs : Nat} {l : List UInt8} {w : World} (h : WaAt Bs l w) : ∀ k, KW Bs k → k < w.heap.size := fun k hk => by
  rcases hk with rfl | hk
  · exact h.bs.lt
  · exact Nat.lt_of_lt_of_le hk h.tb.two
theorem WaAt.keeps {Bs : Nat} {l : List UInt8} {w w' : World} (h : WaAt Bs l w) (hs : w.heap.size ≤ w'.heap.size) (hk : ∀ k, KW Bs k → w'.heap[k]? = w.heap[k]?) : WaAt Bs l w' where
  bs := (hk Bs (.inl rfl)).trans h.bs
  tb := ⟨⟨fun c hc => (World.cell?_of_block (w := w) (a := ⟨0, c, none⟩) (hk 0 (.inr (by decide)))).trans (h.tb.tabs.1 c hc), fun i hi => ⟨(World.cell?_of_block (w := w) (a := ⟨1, 2 * i, none⟩) (hk 1 (.inr (by decide)))).trans (h.tb.tabs.2 i hi).1, (World.cell?_of_block (w := w) (a := ⟨1, 2 * i + 1, none⟩) (hk 1 (.inr (by decide)))).trans (h.tb.tabs.2 i hi).2⟩⟩, Nat.le_trans h.tb.two hs⟩
theorem WaAt.below {Bs : Nat} {l : List UInt8} {w w' : World} (h : WaAt Bs l w) (hb : Below w.heap.size w w') : WaAt Bs l w' :=
  h.keeps hb.size (fun k h2 => hb.block k (h.lt k h2))
def encP {s : List UInt8} (x : Pc s) : Array Value := #[.int .i64 (pos s x.1.1 : Nat), .int .i64 (pos s x.1.2 : Nat)]
set_option maxHeartbeats 2000000 in
theorem weach_stops (n : Nat) (hn : 1 ≤ n) (Bs : Nat) (l : List UInt8) (L : List (Pc l)) (hL : Chn l 0 L) (w : World) (hR : WaAt Bs l w) (hl : l.length ≤ 1000000000) :
    SeqStopsK Fence.wide n Tryd.prog 30 #[.pointer (some ⟨Bs, 0, none⟩)] encP (KrW (KW Bs)) (fun xs => xs = L) (fun pre => pre <+: L) L.length w := fun lp J Jx W hbW hJ hJx hY h0 => by
  have HRW := hid (hR.below hbW)
  have HLL := hid hL
  have hcW := HRW.out.bs.cell
  clear hR hbW hL
  refine callsIn_of_wp Tryd.func30 rfl trivial ?_ rfl
  simp only [Tryd.ntmps30, List.size_toArray, List.length_cons, List.length_nil, Nat.reduceAdd, Nat.reduceSub, Array.replicate_succ, Array.replicate_zero, List.push_toArray, List.append_toArray, List.nil_append, List.cons_append]
  gi_wp2
  gi_loopw [3] (fun v wr => ∃ (p i : Nat) (pre rest : List (Pc l)), v = .int .i64 p ∧ p ≤ l.length ∧ Hid (p = pos l i) ∧ Hid (Chn l i rest) ∧ Hid (L = pre ++ rest) ∧ Hid (J pre wr) ∧ Hid (WaAt Bs l wr)) (fun v _ => l.length - (intOf v).toNat)
  case atStart => exact ⟨0, 0, [], L, rfl, Nat.zero_le _, rfl, HLL, rfl, h0, HRW⟩
  case round =>
    obtain ⟨p, i, pre, rest, rfl, hp, HPI, HCH, HP, HJ, HR⟩ := hrel
    clear hcW
    have hc := HR.out.bs.cell
    by_cases hlt : p < l.length
    · have hlti : (p : Int) < (l.length : Int) := by omega
      have hil : i < (rl l).length := by
        rcases Nat.lt_or_ge i (rl l).length with h | h
        · exact h
        · have h1 := HPI.out
          rw [pos_all l i h] at h1
          omega
      obtain ⟨x, R, rfl⟩ : ∃ x R, rest = x :: R := by
        cases rest with
        | nil => have h1 : i = (rl l).length := HCH.out; omega
        | cons x R => exact ⟨x, R, rfl⟩
      obtain ⟨hx1, hx2, hx3⟩ := HCH.out
      have HX3 := hid hx3
      have HBG := hid (show bgF l p 4 = p by rw [HPI.out]; exact bg_pos l i hil)
      have hq1 : snx l p = pos l x.1.2 := by rw [HPI.out]; exact hx2
      have hb2 : snx l p ≤ l.length := by rw [hq1]; exact pos_le l _ x.2.2.1
      have hb1 : p < snx l p := by
        have h1 := pos_mono l (x.1.2 - i) i (by have := x.2.1; have := x.2.2.1; omega)
        rw [show i + (x.1.2 - i) = x.1.2 by have := x.2.1; omega] at h1
        have h2 := x.2.1
        rw [hq1, HPI.out]
        omega
      have HQ1 := hid hq1
      have HX1 := hid (show p = pos l x.1.1 by rw [hx1]; exact HPI.out)
      clear hx1 hx2 hx3 hq1 hil HCH HPI
      gi_wp2_with fail
      refine ⟨trivial, (callsIn_wide.2 (snext_any l p wr HR.out.tb hl hlt HBG.out)).mono ?_⟩
      rintro e w1 ⟨rfl, be1⟩
      have HJ1 := hid (hJ pre wr w1 none HJ.out (wgrown be1) (fun r e => by cases e))
      have HR1 := hid (HR.out.below be1)
      obtain ⟨q, hq⟩ : ∃ q, q = snx l p := ⟨_, rfl⟩
      rw [← hq] at hb1 hb2 HQ1
      rw [← hq]
      clear be1 hq HJ HR hc
      have HP2 := hid (show L = (pre ++ [x]) ++ R by rw [HP.out, List.append_assoc]; rfl)
      obtain ⟨fn, tmps, assign, body, hy, hRR⟩ := hY pre x w1 HJ1.out (by rw [HP2.out]; simp)
      dsimp only [encP] at hy
      rw [← HX1.out, ← HQ1.out] at hy
      clear hY
      gi_wp2
      refine hRR.mono ?_
      rintro e W3 (⟨rfl, hJ3, hk3⟩ | ⟨rfl, hJx3⟩)
      · have HJ3 := hid hJ3
        have HR3 := hid (HR1.out.keeps hk3.1.size hk3.2)
        clear hJ3 hk3
        gi_wp2
        go_roundw
        case rel => exact ⟨q, x.1.2, pre ++ [x], R, rfl, hb2, HQ1, HX3, HP2, HJ3, HR3⟩
        case measure => simp [intOf]; omega
      · have HJX := hid hJx3
        clear hJx3
        gi_wp2
        refine bodyPost_ret (results_none rfl _ _ _) rfl ?_
        exact ⟨⟨_, rfl⟩, .inr ⟨pre ++ [x], ⟨R, by rw [HP2.out]⟩, HJX.out⟩⟩
    · have hlti : ¬ (p : Int) < (l.length : Int) := by omega
      have HE := hid (show L = pre by
        cases rest with
        | nil => rw [HP.out, List.append_nil]
        | cons x R =>
          have h1 : x.1.1 = i := HCH.out.1
          have h2 := pos_end l i (by have := x.2.1; have := x.2.2.1; omega)
          have h3 := HPI.out
          omega)
      gi_wp2
      go_end0
      exact ⟨⟨_, rfl⟩, .inl (by rw [HE.out]; exact HJ.out)⟩
theorem weach_any (l : List UInt8) (w : World) :
    Calls Tryd.prog 9 #[.string ⟨l.toArray⟩] w fun e w' => e = .returned (.func (.func 30) #[] #[.pointer (some ⟨w.heap.size, 0, none⟩)]) ∧ w' = w.alloc (.cells #[.string ⟨l.toArray⟩] 9) := by
  go_enter Tryd.func9, Tryd.ntmps9
  go_wp2
  go_ret
  exact ⟨rfl, rfl⟩
end Go.Proofs.YtckifhlhechdlaaDoor
