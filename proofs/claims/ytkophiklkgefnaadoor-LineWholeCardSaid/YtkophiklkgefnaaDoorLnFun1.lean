/- The contracts of isAny, endsLine, first, last, without, base and withoutOne (package line). -/
import Derived.Test.YtkophiklkgefnaaDoorLnDef
namespace Go.Proofs.YtkophiklkgefnaaDoor.Ln
open Go.RowKit

/-- The tables of package unicode/utf8. -/
structure Tb (w : World) : Prop where
  tabs : Lib.Utf8Tabs 0 1 w
  two : 2 ≤ w.heap.size
theorem Tb.below {w w' : World} (h : Tb w) (hb : Below w.heap.size w w') : Tb w' := ⟨tabs_below h.tabs h.two hb, Nat.le_trans h.two hb.size⟩
theorem below_box {w : World} {o : Obj} : Below w.heap.size w (w.alloc o) := (Below.refl _ _).alloc (Nat.le_refl _) _
/-- A slice of numbers, nil or not, reads as a list. -/
def RdI (w : World) (ao : Option Addr) (l : List Int) : Prop :=
  ∀ (k : Nat) (z : Int), l[k]? = some z → ∃ a : Addr, ao = some a ∧ a.block < w.heap.size ∧ w.cell? (a.add k) = some (.int .i64 z)
theorem RdI.below {w w' : World} {ao : Option Addr} {l : List Int} (h : RdI w ao l) (hb : Below w.heap.size w w') : RdI w' ao l := fun k z hk => by
  obtain ⟨a, h1, h2, h3⟩ := h k z hk
  exact ⟨a, h1, Nat.lt_of_lt_of_le h2 hb.size, (hb.cell (p := a.add k) (by rw [add_blk]; exact h2)).trans h3⟩
theorem rdi_lit (w : World) (K : List Int) (T : TypeId) : RdI (w.alloc (.cells (K.map fun z => Value.int .i64 z).toArray T)) (some ⟨w.heap.size, 0, none⟩) K := fun k z hk => by
  refine ⟨_, rfl, by simp, ?_⟩
  rw [Addr.add_lit, Nat.zero_add, cell_of_row _ _ _ _ T (0, 0) (heap_alloc_new w _)]
  simp [hk]
set_option maxHeartbeats 1000000 in
theorem isAny_any (c : Int) (ao : Option Addr) (n cap : Nat) (K : List Int) (w : World) (h : RdI w ao K) (hn : n = K.length) (hl : n ≤ 1000) :
    Calls Tryd.prog 75 #[.int .i64 c, .slice ao n cap] w fun e w' => e = .returned (.bool (amg K c)) ∧ w' = w := by
  have HR := hid h
  have HN := hid hn
  clear h hn
  go_enter Tryd.func75, Tryd.ntmps75
  go_wp2
  go_loopw [9] (fun fr wr => ∃ k : Nat, fr = .int .i64 k ∧ k ≤ n ∧ Hid (amg K c = amg (K.drop k) c) ∧ wr = w) (fun fr _ => n - (intOf fr).toNat)
  case atStart => exact ⟨0, rfl, Nat.zero_le _, by simp [Hid], rfl⟩
  case round =>
    obtain ⟨k, rfl, hk, HK, hwr⟩ := hrel
    obtain rfl := hwr.symm
    clear hwr
    by_cases hkn : k < n
    · have hk' : k < K.length := by have := HN.out; omega
      obtain ⟨a, rfl, _, hc⟩ := HR.out k K[k] (List.getElem?_eq_getElem hk')
      have hi : (k : Int) < (n : Int) := by omega
      obtain ⟨x, hx⟩ : ∃ x, x = K[k] := ⟨_, rfl⟩
      rw [← hx] at hc
      have HD := hid (show K.drop k = x :: K.drop (k + 1) by rw [hx]; exact List.drop_eq_getElem_cons hk')
      clear hx
      by_cases hcx : c = x
      · subst hcx
        have hcc : (c == c) = true := beq_self_eq_true c
        go_wp2
        go_ret
        exact ⟨by rw [HK.out, HD.out, amg_cons, hcc]; rfl, rfl⟩
      · have hcc : (c == x) = false := beq_eq_false_iff_ne.2 hcx
        go_wp2
        go_roundw
        case rel => exact ⟨k + 1, by simp, by omega, by show _ = _; rw [HK.out, HD.out, amg_cons, hcc, Bool.false_or], trivial⟩
        case measure => simp [intOf]; omega
    · have hi : ¬ (k : Int) < (n : Int) := by omega
      have HE := hid (show amg K c = false by rw [HK.out, List.drop_of_length_le (by have := HN.out; omega)]; rfl)
      go_wp2
      go_ret
      exact ⟨by rw [HE.out]; rfl, rfl⟩
theorem isAny_lit (c : Int) (K : List Int) (w : World) (hK : K.length ≤ 1000) :
    Calls Tryd.prog 75 #[.int .i64 c, .slice (some ⟨w.heap.size, 0, none⟩) K.length K.length] (w.alloc (.cells (K.map fun z => Value.int .i64 z).toArray 3)) fun e w' => e = .returned (.bool (amg K c)) ∧ Below w.heap.size w w' :=
  (isAny_any c _ _ _ K _ (rdi_lit w K 3) rfl hK).mono fun e w' ⟨h1, h2⟩ => ⟨h1, by rw [h2]; exact below_box⟩
theorem endsLine_any (c : Int) (w : World) : Calls Tryd.prog 79 #[.int .i64 c] w fun e w' => e = .returned (.bool (lnends c)) ∧ Below w.heap.size w w' := by
  go_enter Tryd.func79, Tryd.ntmps79
  go_wp2_with fail
  refine (isAny_lit c [1, 2, 3] w (by decide)).mono ?_
  rintro e w1 ⟨rfl, be⟩
  go_wp2
  go_ret
  exact ⟨by unfold lnends; rfl, be⟩
theorem first_any (l : List UInt8) (w : World) (ht : Tb w) :
    Calls Tryd.prog 78 #[.string ⟨l.toArray⟩] w fun e w' => e = .returned (.tuple #[.int .i64 (lnfirst l), .int .i64 (dec l).2]) ∧ Below w.heap.size w w' := by
  by_cases h : l = []
  · subst h
    go_enter Tryd.func78, Tryd.ntmps78
    go_wp2
    go_ret2
    exact ⟨rfl, Below.refl _ _⟩
  · have HV := hid (show lnfirst l = lncls (dec l).1 from if_neg h)
    have he : l.isEmpty = false := by simpa using h
    have HT := hid ht
    clear h ht
    go_enter Tryd.func78, Tryd.ntmps78
    go_wp2_with fail
    refine (decode_any l w HT.out.tabs).mono ?_
    rintro e w1 ⟨rfl, be⟩
    have HB := hid be
    clear be
    obtain ⟨r, hr⟩ : ∃ r : Int, r = ((dec l).1 : Int) := ⟨_, rfl⟩
    obtain ⟨n, hn⟩ : ∃ n : Nat, n = (dec l).2 := ⟨_, rfl⟩
    have HN := hid hn
    rw [← hr] at HV
    rw [← hr, ← hn]
    clear hr hn
    go_wp2_with fail
    refine (lncls_any r w1).mono ?_
    rintro e w2 ⟨rfl, hw2⟩
    obtain rfl := hw2.symm
    clear hw2
    go_wp2
    go_ret2
    exact ⟨by rw [HV.out, ← HN.out]; rfl, HB.out⟩
theorem last_any' (l : List UInt8) (w : World) (ht : Tb w) (hl : l.length ≤ 1000000000) :
    Calls Tryd.prog 74 #[.string ⟨l.toArray⟩] w fun e w' => e = .returned (.tuple #[.int .i64 (lnlast l), .int .i64 (decLast l).2]) ∧ Below w.heap.size w w' := by
  by_cases h : l = []
  · subst h
    go_enter Tryd.func74, Tryd.ntmps74
    go_wp2
    go_ret2
    exact ⟨rfl, Below.refl _ _⟩
  · have HV := hid (show lnlast l = lncls (decLast l).1 from if_neg h)
    have he : l.isEmpty = false := by simpa using h
    have HT := hid ht
    clear h ht
    go_enter Tryd.func74, Tryd.ntmps74
    go_wp2_with fail
    refine (last_any l w (by omega) HT.out.tabs).mono ?_
    rintro e w1 ⟨rfl, be⟩
    have HB := hid be
    clear be
    obtain ⟨r, hr⟩ : ∃ r : Int, r = ((decLast l).1 : Int) := ⟨_, rfl⟩
    obtain ⟨n, hn⟩ : ∃ n : Nat, n = (decLast l).2 := ⟨_, rfl⟩
    have HN := hid hn
    rw [← hr] at HV
    rw [← hr, ← hn]
    clear hr hn
    go_wp2_with fail
    refine (lncls_any r w1).mono ?_
    rintro e w2 ⟨rfl, hw2⟩
    obtain rfl := hw2.symm
    clear hw2
    go_wp2
    go_ret2
    exact ⟨by rw [HV.out, ← HN.out]; rfl, HB.out⟩
end Go.Proofs.YtkophiklkgefnaaDoor.Ln
