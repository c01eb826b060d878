/- What the iterators of package places share: what a body leaves as it was, the elements, and the contracts of endsLine and second. -/
import Derived.Test.YtffbdnlfknomnaaDoorPcMath
import Derived.Test.YtffbdnlfknomnaaDoorGrAro
import Derived.Test.YtffbdnlfknomnaaDoorUBeg
import Derived.Test.YtffbdnlfknomnaaDoorRngO
namespace Go.Proofs.YtffbdnlfknomnaaDoor.Wt
open Go.RowKit Go.Shelf
attribute [local go_sem] Oper.semAt_some

/-- The types of what a body may write: numbers, scales, spots. -/
def kt (t : Nat) : Bool := !(t == 3 || t == 75 || t == 104)
/-- What a body leaves as it was: the tables, and all cells of other types. -/
structure Kt (X Y : World) : Prop where
  size : X.heap.size ≤ Y.heap.size
  low : ∀ k, k < 2 → Y.heap[k]? = X.heap[k]?
  cells : ∀ (k : Nat) (c : Array Value) (t : Nat) (fz : Nat × Nat), X.heap[k]? = some (.cells c t fz) → kt t = true → Y.heap[k]? = some (.cells c t fz)
theorem Kt_t {A B C : World} (h : Kt A B) (k : Kt B C) : Kt A C :=
  ⟨Nat.le_trans h.size k.size, fun i hi => (k.low i hi).trans (h.low i hi), fun i c t fz h1 h2 => k.cells i c t fz (h.cells i c t fz h1 h2) h2⟩
theorem Kt_b {w : World} (hw : 2 ≤ w.heap.size) (W : World) (l : Nat) (o o' : Obj) (hl : w.heap.size ≤ l) (h : W.heap[l]? = some o) (hc : o.isCells = false) (_ : o.isWalk = false) : Kt W (W.putObj l o') :=
  ⟨by simp, fun k hk => World.putObj_heap_other (by omega), fun k c t fz h1 _ => (World.putObj_heap_other (fun e => by subst e; rw [h] at h1; cases h1; cases hc)).trans h1⟩
theorem Kt.refl (X : World) : Kt X X := ⟨Nat.le_refl _, fun _ _ => rfl, fun _ _ _ _ h _ => h⟩
theorem Kt.below {X Y : World} (h : Below X.heap.size X Y) (h2 : 2 ≤ X.heap.size) : Kt X Y :=
  ⟨h.size, fun k hk => h.block k (by omega), fun k c t fz h1 _ => (h.block k (Array.getElem?_eq_some_iff.1 h1).1).trans h1⟩
theorem WaAt.kt {Bs : Nat} {l : List UInt8} {X Y : World} (h : WaAt Bs l X) (k : Kt X Y) : WaAt Bs l Y := h.keeps k.size fun i hi => by
  rcases hi with rfl | hi
  · have h1 := h.bs
    unfold Boxed at h1
    rw [h1]; exact k.cells _ _ _ _ h1 rfl
  · exact k.low i hi
theorem TbW.kt {X Y : World} (h : TbW X) (k : Kt X Y) : TbW Y := by
  have hl : ∀ i, i < 2 → Y.heap[i]? = X.heap[i]? := k.low
  exact ⟨⟨fun c hc => (World.cell?_of_block (w := X) (a := ⟨0, c, none⟩) (hl 0 (by decide))).trans (h.tabs.1 c hc), fun i hi => ⟨(World.cell?_of_block (w := X) (a := ⟨1, 2 * i, none⟩) (hl 1 (by decide))).trans (h.tabs.2 i hi).1, (World.cell?_of_block (w := X) (a := ⟨1, 2 * i + 1, none⟩) (hl 1 (by decide))).trans (h.tabs.2 i hi).2⟩⟩, Nat.le_trans h.two k.size⟩
/-- A place of a text. -/
structure Pn (l : List UInt8) where
  v : Nat
  lt : v < l.length
def encN {l : List UInt8} (x : Pn l) : Array Value := #[.int .i64 (x.v : Nat)]
theorem pn_all (l : List UInt8) : ∀ B : List Nat, (∀ p ∈ B, p < l.length) → ∃ L : List (Pn l), L.map Pn.v = B
  | [], _ => ⟨[], rfl⟩
  | p :: B, h => by
    obtain ⟨L, hL⟩ := pn_all l B fun q hq => h q (List.mem_cons_of_mem _ hq)
    exact ⟨⟨p, h p (List.mem_cons_self ..)⟩ :: L, by rw [List.map_cons, hL]⟩
/-- The contract of an iterator over the places of a text. -/
def PlSeq (g : Nat) (E : List UInt8 → List Nat) : Prop := ∀ (n Bs : Nat) (l : List UInt8) (L : List (Pn l)) (w : World), 3 ≤ n → L.map Pn.v = E l → WaAt Bs l w → l.length ≤ 1000000 →
  SeqO Fence.wide n Tryd.prog g #[.pointer (some ⟨Bs, 0, none⟩)] encN Kt (fun xs => xs = L) (fun pre => pre <+: L) L.length w
/-- The contract of the function that makes it. -/
def PlMk (m g : Nat) : Prop := ∀ (l : List UInt8) (w : World), Calls Tryd.prog m #[.string ⟨l.toArray⟩] w fun e w' => e = .returned (.func (.func g) #[] #[.pointer (some ⟨w.heap.size, 0, none⟩)]) ∧ w' = w.alloc (.cells #[.string ⟨l.toArray⟩] 9)
theorem units_mk : PlMk 34 58 := fun l w => by
  go_enter Tryd.func34, Tryd.ntmps34
  go_wp2
  go_ret
  exact ⟨rfl, rfl⟩
theorem runes_mk : PlMk 35 59 := fun l w => by
  go_enter Tryd.func35, Tryd.ntmps35
  go_wp2
  go_ret
  exact ⟨rfl, rfl⟩
theorem letters_mk : PlMk 36 60 := fun l w => by
  go_enter Tryd.func36, Tryd.ntmps36
  go_wp2
  go_ret
  exact ⟨rfl, rfl⟩
theorem ends_mk : PlMk 37 62 := fun l w => by
  go_enter Tryd.func37, Tryd.ntmps37
  go_wp2
  go_ret
  exact ⟨rfl, rfl⟩
theorem isN_ne (r : Nat) (h : isN r = false) : ((r : Int) == 10) = false ∧ ((r : Int) == 11) = false ∧ ((r : Int) == 12) = false ∧ ((r : Int) == 13) = false ∧ ((r : Int) == 133) = false ∧ ((r : Int) == 8232) = false ∧ ((r : Int) == 8233) = false := by
  unfold isN at h
  simp only [Bool.or_eq_false_iff, beq_eq_false_iff_ne] at h
  simp only [beq_eq_false_iff_ne]
  omega
theorem endsLine_any (r : Nat) (w : World) :
    Calls Tryd.prog 63 #[.int .i32 (r : Int)] w fun e w' => e = .returned (.bool (isN r)) ∧ w' = w := by
  cases h : isN r with
  | false =>
    obtain ⟨h1, h2, h3, h4, h5, h6, h7⟩ := isN_ne r h
    clear h
    go_enter Tryd.func63, Tryd.ntmps63
    go_wp2
    go_ret
    exact ⟨rfl, rfl⟩
  | true =>
    have hr : r = 10 ∨ r = 11 ∨ r = 12 ∨ r = 13 ∨ r = 133 ∨ r = 8232 ∨ r = 8233 := by
      unfold isN at h
      simp only [Bool.or_eq_true, beq_iff_eq] at h
      omega
    clear h
    rcases hr with rfl | rfl | rfl | rfl | rfl | rfl | rfl
    all_goals
      go_enter Tryd.func63, Tryd.ntmps63
      go_wp2
      go_ret
      exact ⟨rfl, rfl⟩
theorem second_any (l : List UInt8) (t : Nat) (w : World) (ht : t < l.length) (hl : l.length ≤ 1000000) :
    Calls Tryd.prog 64 #[.string ⟨l.toArray⟩, .int .i64 t] w fun e w' => e = .returned (.bool (sec l t)) ∧ w' = w := by
  have hsz : t < (⟨l.toArray⟩ : ByteArray).size := by show t < l.toArray.size; simpa using ht
  have hlti : (t : Int) < (l.length : Int) := by omega
  have hb := byt_eq l t hsz
  cases h1 : (byt l t == 10) with
  | false =>
    have hq : ((((⟨l.toArray⟩ : ByteArray)[t]'hsz).toNat : Int) == 10) = false := by rw [hb]; exact h1
    have HV := hid (show sec l t = false by unfold sec; rw [h1]; rfl)
    clear hb h1
    go_enter Tryd.func64, Tryd.ntmps64
    go_wp2
    go_ret
    exact ⟨by rw [HV.out]; rfl, rfl⟩
  | true =>
    have hq : ((((⟨l.toArray⟩ : ByteArray)[t]'hsz).toNat : Int) == 10) = true := by rw [hb]; exact h1
    by_cases h0 : 0 < t
    · obtain ⟨u, rfl⟩ : ∃ u, t = u + 1 := ⟨t - 1, by omega⟩
      have hszu : u < (⟨l.toArray⟩ : ByteArray).size := by omega
      have hbu := byt_eq l u hszu
      have hlu : (u : Int) < (l.length : Int) := by omega
      have HV := hid (show sec l (u + 1) = (byt l u == 13) by unfold sec; rw [h1]; simp)
      cases h2 : (byt l u == 13) with
      | false =>
        have hqu : ((((⟨l.toArray⟩ : ByteArray)[u]'hszu).toNat : Int) == 13) = false := by rw [hbu]; exact h2
        rw [h2] at HV
        clear hb h1 hbu h2
        go_enter Tryd.func64, Tryd.ntmps64
        go_wp2
        go_ret
        exact ⟨by rw [HV.out]; rfl, rfl⟩
      | true =>
        have hqu : ((((⟨l.toArray⟩ : ByteArray)[u]'hszu).toNat : Int) == 13) = true := by rw [hbu]; exact h2
        rw [h2] at HV
        clear hb h1 hbu h2
        go_enter Tryd.func64, Tryd.ntmps64
        go_wp2
        go_ret
        exact ⟨by rw [HV.out]; rfl, rfl⟩
    · obtain rfl : t = 0 := by omega
      have HV := hid (sec_0 l)
      clear hb h1 h0
      go_enter Tryd.func64, Tryd.ntmps64
      go_wp2
      go_ret
      exact ⟨by rw [HV.out]; rfl, rfl⟩
end Go.Proofs.YtffbdnlfknomnaaDoor.Wt
