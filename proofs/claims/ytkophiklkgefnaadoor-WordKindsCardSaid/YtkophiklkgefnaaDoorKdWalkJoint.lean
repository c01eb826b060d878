/- Words: the runes beside a place; what holds together. -/
import Derived.Test.YtkophiklkgefnaaDoorTxMath
import Derived.Test.YtkophiklkgefnaaDoorWdFun2Joint
import Derived.Test.YtkophiklkgefnaaDoorWdAny
import Derived.Test.YtkophiklkgefnaaDoorLiveRun
import Derived.Test.YtkophiklkgefnaaDoorMix
namespace Go.Proofs.YtkophiklkgefnaaDoor.Wd
open Go.RowKit

theorem wlast_at (s : List UInt8) (k : Nat) (x : Nat × Nat) (h : (rl s)[k]? = some x) : wlast (s.take (plc s (k + 1))) = wdcls x.1 := by
  obtain ⟨_, h2, _⟩ := take_last s k x h
  unfold wlast
  rw [h2]
theorem wfirst_at (s : List UInt8) (k : Nat) (x : Nat × Nat) (h : (rl s)[k]? = some x) : wfirst (s.drop (plc s k)) = wdcls x.1 := by
  obtain ⟨hk, hx⟩ := List.getElem?_eq_some_iff.1 h
  have h1 := rl_drop s k (by omega)
  have hne : s.drop (plc s k) ≠ [] := fun e => by
    rw [e, rl_nil, List.drop_eq_getElem_cons hk] at h1
    cases h1
  rw [rl_cons _ hne, List.drop_eq_getElem_cons hk, hx] at h1
  have h2 : dec (s.drop (plc s k)) = x := (List.cons.inj h1).1
  unfold wfirst
  rw [h2]
theorem wdcls_nat (r : Nat) : ∃ c : Nat, wdcls (r : Int) = (c : Int) ∧ c < 20 := by
  obtain ⟨n, h1, h2⟩ := (wdcls_bd (r : Int)).nat
  exact ⟨n, h2, h1⟩
theorem wdN_eq (c : Nat) (h : c < 20) (k : Nat) (hk : k < 20) : (Dc.wdN (c : Int) == Dc.wdN (k : Int)) = decide (c = k) := by
  have H : ∀ a : Fin 20, ∀ b : Fin 20, (Dc.wdN ((a : Nat) : Int) == Dc.wdN ((b : Nat) : Int)) = decide ((a : Nat) = (b : Nat)) := by decide +kernel
  exact H ⟨c, h⟩ ⟨k, hk⟩
theorem wdN_ne (c : Nat) (h : c < 20) (k : Nat) (hk : k < 20) (hne : c ≠ k) (b : List UInt8) (hb : Dc.wdN (k : Int) = b) : (Dc.wdN (c : Int) == b) = false := by
  rw [← hb, wdN_eq c h k hk]
  exact decide_eq_false hne
/-- What the law calls glued. -/
def wgl (a b : Nat) : Bool :=
  ((a == 10 || a == 9) && (b == 10 || b == 9)) || (a == 16 && b == 16) || ((a == 10 || a == 9) && b == 16) || (a == 16 && (b == 10 || b == 9)) || (a == 8 && b == 8) || ((b == 4 || b == 6 || b == 5) && !(a == 3) && !(a == 1) && !(a == 2))
theorem wgl_cases (a b : Nat) (ha : a < 20) (hb : b < 20) (h : wgl a b = true) : wends (a : Int) = false ∧ wends (b : Int) = false ∧ (wclings (b : Int) = true ∨ (wclings (a : Int) = false ∧ wtog (a : Int) (b : Int) = true)) := by
  have H : ∀ a : Fin 20, ∀ b : Fin 20, wgl (a : Nat) (b : Nat) = true → wends ((a : Nat) : Int) = false ∧ wends ((b : Nat) : Int) = false ∧ (wclings ((b : Nat) : Int) = true ∨ (wclings ((a : Nat) : Int) = false ∧ wtog ((a : Nat) : Int) ((b : Nat) : Int) = true)) := by decide +kernel
  exact H ⟨a, ha⟩ ⟨b, hb⟩ h
section
variable (s : List UInt8) (p : Nat) (a b : Nat) (ha : wlast (s.take p) = (a : Int)) (hb : wfirst (s.drop p) = (b : Int))
include ha hb
theorem wh_glued (h0 : s.take p ≠ []) (h1 : a < 20) (h2 : b < 20) (h : wgl a b = true) : wcut s p = false := by
  obtain ⟨e1, e2, e3⟩ := wgl_cases a b h1 h2 h
  unfold wcut
  rw [ha, hb, e1, e2]
  rcases e3 with e3 | ⟨e3, e4⟩
  · rw [e3]
    simp
  · have e5 : wjoin s p = true := by
      unfold wjoin
      rw [wbs_no _ h0 (by rw [ha]; exact e3), ha, hb]
      show (if wtog (a : Int) (b : Int) = true then true else _) = true
      rw [if_pos e4]
    rw [e5]
    simp
theorem wh_crlf (h1 : a = 1) (h2 : b = 2) : wcut s p = false := by
  subst h1 h2
  unfold wcut
  rw [ha, hb]
  rfl
theorem wh_ends (h1 : wends (a : Int) = true ∨ wends (b : Int) = true) (h2 : ¬ (a = 1 ∧ b = 2)) : wcut s p = true := by
  have e1 : ((a : Int) == 1 && (b : Int) == 2) = false := by
    rw [Bool.and_eq_false_iff]
    by_cases c1 : a = 1
    · exact .inr (beq_eq_false_iff_ne.2 (fun e => h2 ⟨c1, by omega⟩))
    · exact .inl (beq_eq_false_iff_ne.2 (fun e => c1 (by omega)))
  unfold wcut
  rw [ha, hb, e1]
  rcases h1 with h1 | h1
  · rw [h1]; simp
  · rw [h1]; simp
end
end Go.Proofs.YtkophiklkgefnaaDoor.Wd
/- The kind of a text, by the classes of its runes: as the program reckons it, and as the document says it. -/
namespace Go.Proofs.YtkophiklkgefnaaDoor.Wd
open Go.RowKit

/-- The classes of a text's runes. -/
def clL (l : List UInt8) : List Nat := (rl l).map fun x => (wdcls x.1).toNat
def kof (c : Nat) : Nat := if c = 10 ∨ c = 9 ∨ c = 8 then 4 else if c = 16 then 3 else if c = 3 ∨ c = 1 ∨ c = 2 then 2 else if c = 18 then 1 else 0
def odc (c : Nat) : Bool := decide (kof c = 0) && !wclings (c : Int)
def kmx (L : List Nat) : Nat := L.foldl (fun k c => max k (kof c)) 0
def str (L : List Nat) : Bool := L.foldl (fun b c => b || odc c) false
def wkd (L : List Nat) : Nat := if kmx L = 1 ∧ str L = true then 0 else kmx L
theorem kmx_snoc (L : List Nat) (c : Nat) : kmx (L ++ [c]) = max (kmx L) (kof c) := by simp [kmx]
theorem str_snoc (L : List Nat) (c : Nat) : str (L ++ [c]) = (str L || odc c) := by simp [str]
theorem kof_le (c : Nat) : kof c ≤ 4 := by unfold kof; (repeat' split) <;> omega
theorem fold_max : ∀ (L : List Nat) (a v : Nat), v ≤ L.foldl (fun k c => max k (kof c)) a ↔ v ≤ a ∨ ∃ c ∈ L, v ≤ kof c
  | [], a, v => by simp
  | x :: L, a, v => by
    rw [List.foldl_cons, fold_max L (max a (kof x)) v]
    simp only [List.mem_cons, exists_eq_or_imp]
    have h : v ≤ max a (kof x) ↔ v ≤ a ∨ v ≤ kof x := by omega
    rw [h, or_assoc]
theorem fold_or : ∀ (L : List Nat) (a : Bool), L.foldl (fun b c => b || odc c) a = true ↔ a = true ∨ ∃ c ∈ L, odc c = true
  | [], a => by simp
  | x :: L, a => by
    rw [List.foldl_cons, fold_or L (a || odc x)]
    simp only [List.mem_cons, exists_eq_or_imp, Bool.or_eq_true, or_assoc]
theorem kmx_ge (L : List Nat) (v : Nat) (hv : 1 ≤ v) : v ≤ kmx L ↔ ∃ c ∈ L, v ≤ kof c := by
  unfold kmx
  rw [fold_max]
  constructor
  · rintro (h | h)
    · omega
    · exact h
  · exact .inr
theorem kmx_le (L : List Nat) : kmx L ≤ 4 := by
  rcases Nat.lt_or_ge 4 (kmx L) with h | h
  · obtain ⟨c, _, h2⟩ := (kmx_ge L 5 (by omega)).1 h
    have := kof_le c
    omega
  · exact h
/-- A class is there. -/
def hsc (L : List Nat) (k : Nat) : Bool := decide (k ∈ L)
def pln (c : Nat) : Bool := c == 18 || c == 4 || c == 6 || c == 5
def plA (L : List Nat) : Bool := L.all pln
def rkd (L : List Nat) : Nat :=
  if (hsc L 10 || hsc L 9 || hsc L 8) = true then 4 else if hsc L 16 = true then 3 else if (hsc L 3 || hsc L 1 || hsc L 2) = true then 2 else if (hsc L 18 && plA L) = true then 1 else 0
theorem hsc_snoc (L : List Nat) (c k : Nat) : hsc (L ++ [c]) k = (hsc L k || decide (k = c)) := by
  unfold hsc
  rw [← Bool.decide_or]
  simp
theorem plA_snoc (L : List Nat) (c : Nat) : plA (L ++ [c]) = (plA L && pln c) := by simp [plA]
theorem kof4 (c : Nat) : 4 ≤ kof c ↔ c = 10 ∨ c = 9 ∨ c = 8 := by unfold kof; (repeat' split) <;> omega
theorem kof3 (c : Nat) : 3 ≤ kof c ↔ (c = 10 ∨ c = 9 ∨ c = 8) ∨ c = 16 := by unfold kof; (repeat' split) <;> omega
theorem kof2 (c : Nat) : 2 ≤ kof c ↔ (c = 10 ∨ c = 9 ∨ c = 8) ∨ c = 16 ∨ (c = 3 ∨ c = 1 ∨ c = 2) := by unfold kof; (repeat' split) <;> omega
theorem kof1 (c : Nat) : 1 ≤ kof c ↔ (c = 10 ∨ c = 9 ∨ c = 8) ∨ c = 16 ∨ (c = 3 ∨ c = 1 ∨ c = 2) ∨ c = 18 := by unfold kof; (repeat' split) <;> omega
theorem kinds_same (L : List Nat) (hL : ∀ c ∈ L, c < 20) : wkd L = rkd L := by
  have g4 := kmx_ge L 4 (by omega)
  have g3 := kmx_ge L 3 (by omega)
  have g2 := kmx_ge L 2 (by omega)
  have g1 := kmx_ge L 1 (by omega)
  have gl := kmx_le L
  have ex : ∀ {p q : Nat → Prop}, (∀ c, p c ↔ q c) → ((∃ c ∈ L, p c) ↔ ∃ c ∈ L, q c) := fun h => ⟨fun ⟨c, h1, h2⟩ => ⟨c, h1, (h c).1 h2⟩, fun ⟨c, h1, h2⟩ => ⟨c, h1, (h c).2 h2⟩⟩
  rw [ex kof4] at g4
  rw [ex kof3] at g3
  rw [ex kof2] at g2
  rw [ex kof1] at g1
  have m4 : (hsc L 10 || hsc L 9 || hsc L 8) = true ↔ ∃ c ∈ L, c = 10 ∨ c = 9 ∨ c = 8 := by
    unfold hsc
    simp only [Bool.or_eq_true, decide_eq_true_eq]
    constructor
    · rintro ((h | h) | h)
      · exact ⟨10, h, .inl rfl⟩
      · exact ⟨9, h, .inr (.inl rfl)⟩
      · exact ⟨8, h, .inr (.inr rfl)⟩
    · rintro ⟨c, h, rfl | rfl | rfl⟩
      · exact .inl (.inl h)
      · exact .inl (.inr h)
      · exact .inr h
  have m3 : hsc L 16 = true ↔ 16 ∈ L := by unfold hsc; simp
  have m2 : (hsc L 3 || hsc L 1 || hsc L 2) = true ↔ ∃ c ∈ L, c = 3 ∨ c = 1 ∨ c = 2 := by
    unfold hsc
    simp only [Bool.or_eq_true, decide_eq_true_eq]
    constructor
    · rintro ((h | h) | h)
      · exact ⟨3, h, .inl rfl⟩
      · exact ⟨1, h, .inr (.inl rfl)⟩
      · exact ⟨2, h, .inr (.inr rfl)⟩
    · rintro ⟨c, h, rfl | rfl | rfl⟩
      · exact .inl (.inl h)
      · exact .inl (.inr h)
      · exact .inr h
  unfold rkd wkd
  by_cases h4 : ∃ c ∈ L, c = 10 ∨ c = 9 ∨ c = 8
  · rw [if_pos (m4.2 h4)]
    have := g4.2 h4
    rw [if_neg (by omega)]
    omega
  rw [if_neg (fun e => h4 (m4.1 e))]
  have n4 : ¬ 4 ≤ kmx L := fun e => h4 (g4.1 e)
  by_cases h3 : 16 ∈ L
  · rw [if_pos (m3.2 h3)]
    have := g3.2 ⟨16, h3, .inr rfl⟩
    rw [if_neg (by omega)]
    omega
  rw [if_neg (fun e => h3 (m3.1 e))]
  have n3 : ¬ 3 ≤ kmx L := fun e => by
    obtain ⟨c, h1, h2 | rfl⟩ := g3.1 e
    · exact h4 ⟨c, h1, h2⟩
    · exact h3 h1
  by_cases h2 : ∃ c ∈ L, c = 3 ∨ c = 1 ∨ c = 2
  · rw [if_pos (m2.2 h2)]
    obtain ⟨c, h5, h6⟩ := h2
    have := g2.2 ⟨c, h5, .inr (.inr h6)⟩
    rw [if_neg (by omega)]
    omega
  rw [if_neg (fun e => h2 (m2.1 e))]
  have n2 : ¬ 2 ≤ kmx L := fun e => by
    obtain ⟨c, h1, h5 | rfl | h5⟩ := g2.1 e
    · exact h4 ⟨c, h1, h5⟩
    · exact h3 h1
    · exact h2 ⟨c, h1, h5⟩
  by_cases h1 : 18 ∈ L
  · have k1 := g1.2 ⟨18, h1, .inr (.inr (.inr rfl))⟩
    have e18 : hsc L 18 = true := by unfold hsc; simpa using h1
    rw [e18, Bool.true_and]
    have hk : kmx L = 1 := by omega
    have hs : str L = true ↔ ¬ plA L = true := by
      unfold str plA
      rw [fold_or, List.all_eq_true]
      constructor
      · rintro (h | ⟨c, h5, h6⟩) h7
        · cases h
        · have H : ∀ a : Fin 20, odc (a : Nat) = true → pln (a : Nat) = true → False := by decide +kernel
          exact H ⟨c, hL c h5⟩ h6 (h7 c h5)
      · intro h
        refine .inr ?_
        simp only [Classical.not_forall] at h
        obtain ⟨c, h5, h6⟩ := h
        refine ⟨c, h5, ?_⟩
        have q4 : ¬ (c = 10 ∨ c = 9 ∨ c = 8) := fun e => h4 ⟨c, h5, e⟩
        have q3 : c ≠ 16 := fun e => h3 (e ▸ h5)
        have q2 : ¬ (c = 3 ∨ c = 1 ∨ c = 2) := fun e => h2 ⟨c, h5, e⟩
        have H : ∀ a : Fin 20, ¬ ((a : Nat) = 10 ∨ (a : Nat) = 9 ∨ (a : Nat) = 8) → (a : Nat) ≠ 16 → ¬ ((a : Nat) = 3 ∨ (a : Nat) = 1 ∨ (a : Nat) = 2) → ¬ pln (a : Nat) = true → odc (a : Nat) = true := by decide +kernel
        exact H ⟨c, hL c h5⟩ q4 q3 q2 h6
    by_cases hp : plA L = true
    · rw [if_pos hp, if_neg (fun e => absurd hp (hs.1 e.2)), hk]
    · rw [if_neg hp, if_pos ⟨hk, hs.2 hp⟩]
  · have e18 : hsc L 18 = false := by unfold hsc; simpa using h1
    have k0 : ¬ 1 ≤ kmx L := fun e => by
      obtain ⟨c, h5, h6 | rfl | h6 | rfl⟩ := g1.1 e
      · exact h4 ⟨c, h5, h6⟩
      · exact h3 h5
      · exact h2 ⟨c, h5, h6⟩
      · exact h1 h5
    rw [e18, Bool.false_and, if_neg (by omega)]
    simp
    omega
end Go.Proofs.YtkophiklkgefnaaDoor.Wd
/- The contract of Kind (package word). -/
namespace Go.Proofs.YtkophiklkgefnaaDoor.Wd
open Go.RowKit

set_option maxRecDepth 100000 in
theorem kindOf_run : ((List.range 20).all fun a => Ev.runA Tryd.prog none7 1000000 60 tabs 36 [.int .i64 (a : Int)] (.int .i64 (kof a : Int))) = true := by kernel_rfl
theorem kindOf_any (a : Nat) (ha : a < 20) (w : World) (hw : Ev.Tbs tabs w) :
    Calls Tryd.prog 36 #[.int .i64 (a : Int)] w fun e w' => e = .returned (.int .i64 (kof a : Int)) ∧ Below w.heap.size w w' :=
  Ev.closed_args mixed none7_ok tabs_ok rfl (List.all_eq_true.1 kindOf_run a (List.mem_range.2 ha)) w hw
theorem tbs_below {w w' : World} (h : Ev.Tbs tabs w) (hb : Below w.heap.size w w') : Ev.Tbs tabs w' := fun x hx => by
  obtain ⟨c, h1, h2⟩ := h x hx
  exact ⟨c, (hb.block _ (Array.getElem?_eq_some_iff.1 h1).1).trans h1, h2⟩
theorem clL_len (l : List UInt8) : (clL l).length = (rl l).length := by simp [clL]
theorem clL_snoc (l : List UInt8) (k : Nat) (x : Nat × Nat) (c : Nat) (hx : (rl l)[k]? = some x) (hc : wdcls x.1 = (c : Int)) : (clL l).take (k + 1) = (clL l).take k ++ [c] := by
  have h0 : (clL l)[k]? = some c := by
    unfold clL
    rw [List.getElem?_map, hx]
    simp [hc]
  obtain ⟨hk2, h⟩ := List.getElem?_eq_some_iff.1 h0
  rw [List.take_succ_eq_append_getElem hk2, h]
set_option maxHeartbeats 4000000 in
set_option maxRecDepth 100000 in
theorem wkind_any (l : List UInt8) (w : World) (hw : Ev.Tbs tabs w) :
    Calls Tryd.prog 12 #[.string ⟨l.toArray⟩] w fun e w' => e = .returned (.int .i64 (wkd (clL l) : Int)) ∧ Below w.heap.size w w' := by
  have HV := hid hw
  clear hw
  have HSZ := hid (show (⟨l.toArray⟩ : ByteArray).size = l.length by show l.toArray.size = _; simp)
  have HB0 := hid ((Below.refl w.heap.size w).alloc (Nat.le_refl _) (.stringIter ⟨l.toArray⟩ 0))
  have HIT0 := hid (World.iter_heap w ⟨l.toArray⟩ 0)
  go_enter Tryd.func12, Tryd.ntmps12
  go_wp2
  go_loopw [3, 4] (fun a b wr => ∃ k : Nat, k ≤ (rl l).length ∧ a = .int .i64 (kmx ((clL l).take k) : Int) ∧ b = .bool (str ((clL l).take k)) ∧ Hid (wr.heap[w.heap.size]? = some (.stringIter ⟨l.toArray⟩ (plc l k))) ∧ Hid (Below w.heap.size w wr)) (fun _ _ wr => l.length - wr.iterPos w.heap.size)
  case atStart => exact ⟨0, by omega, rfl, rfl, HIT0, HB0⟩
  case round =>
    obtain ⟨k, hk, rfl, rfl, HI, HB⟩ := hrel
    have hin : w.heap.size < wr.heap.size := (Array.getElem?_eq_some_iff.1 HI.out).1
    by_cases hlt : k < (rl l).length
    · have HE := hid (List.getElem?_eq_getElem hlt)
      obtain ⟨x, hx⟩ : ∃ x, x = (rl l)[k] := ⟨_, rfl⟩
      rw [← hx] at HE
      have hpl : plc l k < l.length := by
        have h1 := plc_succ l k x HE.out
        have h2 := plc_le l (k + 1)
        have h3 := rl_pos l.length l (Nat.le_refl _) x (by rw [hx]; exact List.getElem_mem hlt)
        omega
      have hnx := wnext_at (P := Tryd.prog) wr w.heap.size ⟨l.toArray⟩ (plc l k) 0 HI.out (by rw [HSZ.out]; exact hpl)
      rw [decode_place l _ hpl] at hnx
      have hdx : dec (l.drop (plc l k)) = x := by
        have h1 := rl_drop l k (by omega)
        rw [rl_cons _ (drop_ne l _ hpl), List.drop_eq_getElem_cons hlt, ← hx] at h1
        exact (List.cons.inj h1).1
      rw [hdx, ← plc_succ l k x HE.out] at hnx
      have hx2 := rl_pos l.length l (Nat.le_refl _) x (by rw [hx]; exact List.getElem_mem hlt)
      have HM := hid (show l.length - plc l (k + 1) < l.length - wr.iterPos w.heap.size by
        have h1 : wr.iterPos w.heap.size = plc l k := by unfold World.iterPos; rw [HI.out]
        have h2 := plc_succ l k x HE.out
        rw [h1]; omega)
      obtain ⟨c, hc, hc2⟩ := wdcls_nat x.1
      have HS := hid (clL_snoc l k x c HE.out hc)
      have HC2 := hid hc2
      obtain ⟨rr, hrr⟩ : ∃ rr : Int, rr = (x.1 : Int) := ⟨_, rfl⟩
      rw [← hrr] at hnx hc
      obtain ⟨P, hP⟩ : ∃ P, P = plc l (k + 1) := ⟨_, rfl⟩
      obtain ⟨w1, hw1⟩ : ∃ w1, w1 = wr.putObj w.heap.size (.stringIter ⟨l.toArray⟩ (plc l (k + 1))) := ⟨_, rfl⟩
      rw [← hw1] at hnx
      have HI1 := hid (show w1.heap[w.heap.size]? = some (.stringIter ⟨l.toArray⟩ (plc l (k + 1))) by rw [hw1]; exact World.putObj_heap_same hin)
      have HB1 := hid (show Below w.heap.size w w1 by rw [hw1]; exact HB.out.trans ⟨rfl, rfl, rfl, by simp [World.putObj], fun j hj => World.putObj_heap_other (by omega)⟩)
      have HCC := hid hc
      clear hrr hw1 HI HB hdx hpl hx hx2 hP hc hc2
      obtain ⟨K, hK⟩ : ∃ K, K = kmx ((clL l).take k) := ⟨_, rfl⟩
      obtain ⟨b, hb⟩ : ∃ b, b = str ((clL l).take k) := ⟨_, rfl⟩
      have HK1 := hid (show kmx ((clL l).take (k + 1)) = max K (kof c) by rw [HS.out, kmx_snoc, hK])
      have HS1 := hid (show str ((clL l).take (k + 1)) = (b || odc c) by rw [HS.out, str_snoc, hb])
      have HKL := hid (show K ≤ 4 by rw [hK]; exact kmx_le _)
      rw [← hK, ← hb]
      clear hK hb
      go_wp2_with fail
      refine (wdcls_any rr w1).mono ?_
      rintro e w2 ⟨rfl, hw2⟩
      obtain rfl := hw2.symm
      clear hw2 hnx
      rw [HCC.out]
      go_wp2_with fail
      refine (kindOf_any c HC2.out w1 (tbs_below HV.out HB1.out)).mono ?_
      rintro e w2 ⟨rfl, be⟩
      have HB2 := hid (HB1.out.trans (be.mono HB1.out.size))
      have HI2 := hid ((be.block _ (Array.getElem?_eq_some_iff.1 HI1.out).1).trans HI1.out)
      clear be HB1 HI1
      obtain ⟨o, ho⟩ : ∃ o, o = kof c := ⟨_, rfl⟩
      have HO := hid ho
      have HOD := hid (show odc c = (decide (o = 0) && !wclings (c : Int)) by rw [ho]; rfl)
      have ol : o ≤ 4 := by rw [ho]; exact kof_le c
      rw [← ho] at HK1 ⊢
      clear ho
      have kl : K ≤ 4 := HKL.out
      have hmx : (max (K : Int) (o : Int)) = ((max K o : Nat) : Int) := by omega
      have FIN : ∀ (W : World), W.heap[w.heap.size]? = some (.stringIter ⟨l.toArray⟩ (plc l (k + 1))) → l.length - W.iterPos w.heap.size < l.length - wr.iterPos w.heap.size := fun W h => by
        have h1 : W.iterPos w.heap.size = plc l (k + 1) := by unfold World.iterPos; rw [h]
        rw [h1]
        exact HM.out
      have HFIN := hid FIN
      clear FIN
      cases b with
      | true =>
        go_wp2
        go_roundw
        case rel => exact ⟨k + 1, by omega, by rw [HK1.out], by rw [HS1.out]; rfl, HI2, HB2⟩
        case measure => exact HFIN.out _ HI2.out
      | false =>
        by_cases o0 : o = 0
        · subst o0
          go_wp2_with fail
          refine (wclings_any (c : Int) w2).mono ?_
          rintro e w3 ⟨rfl, hw2⟩
          obtain rfl := hw2.symm
          clear hw2
          obtain ⟨q, hq⟩ : ∃ q, q = wclings (c : Int) := ⟨_, rfl⟩
          rw [← hq] at HOD ⊢
          clear hq
          go_wp2
          go_roundw
          case rel => exact ⟨k + 1, by omega, by rw [HK1.out]; first | rfl | (rw [hmx]) | (congr 1; omega), by rw [HS1.out, HOD.out]; cases q <;> rfl, HI2, HB2⟩
          case measure => exact HFIN.out _ HI2.out
        · have o1 : ¬ (o : Int) = 0 := by omega
          have o2 : ((o : Int) == 0) = false := beq_eq_false_iff_ne.2 o1
          have HO3 := hid (show odc c = false by rw [HOD.out, decide_eq_false o0]; rfl)
          go_wp2
          go_roundw
          case rel => exact ⟨k + 1, by omega, by rw [HK1.out], by rw [HS1.out, HO3.out]; rfl, HI2, HB2⟩
          case measure => exact HFIN.out _ HI2.out
    · have hke : k = (rl l).length := by omega
      have hpl : plc l k = l.length := plc_all l k (by omega)
      have hnx := wnext_stop (P := Tryd.prog) wr w.heap.size ⟨l.toArray⟩ (plc l k) 0 HI.out (by rw [HSZ.out, hpl]; omega)
      have htk : (clL l).take k = clL l := List.take_of_length_le (by rw [clL_len]; omega)
      rw [htk]
      have HW := hid (show wkd (clL l) = if kmx (clL l) = 1 ∧ str (clL l) = true then 0 else kmx (clL l) from rfl)
      obtain ⟨K, hK⟩ : ∃ K, K = kmx (clL l) := ⟨_, rfl⟩
      obtain ⟨b, hb⟩ : ∃ b, b = str (clL l) := ⟨_, rfl⟩
      rw [← hK, ← hb] at HW
      rw [← hK, ← hb]
      clear hK hb htk hpl hke
      by_cases k1 : K = 1
      · subst k1
        cases b with
        | true =>
          go_wp2
          go_ret
          exact ⟨by rw [HW.out]; rfl, HB.out⟩
        | false =>
          go_wp2
          go_ret
          exact ⟨by rw [HW.out]; rfl, HB.out⟩
      · have k2 : ¬ (K : Int) = 1 := by omega
        have k3 : ((K : Int) == 1) = false := beq_eq_false_iff_ne.2 k2
        have HW2 := hid (show wkd (clL l) = K by rw [HW.out, if_neg (fun e => k1 e.1)])
        go_wp2
        go_ret
        exact ⟨by rw [HW2.out]; rfl, HB.out⟩
end Go.Proofs.YtkophiklkgefnaaDoor.Wd
/- The contract of the document's Kind. -/
namespace Go.Proofs.YtkophiklkgefnaaDoor.Wd
open Go.RowKit

/-- A block of cells. -/
def Cb (W : World) (B : Nat) (c : Array Value) (t : Nat) : Prop := W.heap[B]? = some (.cells c t (0, 0))
theorem Cb.lt {W : World} {B : Nat} {c : Array Value} {t : Nat} (h : Cb W B c t) : B < W.heap.size := (Array.getElem?_eq_some_iff.1 h).1
theorem Cb.cell {W : World} {B : Nat} {c : Array Value} {t : Nat} (h : Cb W B c t) (i : Nat) : W.cell? ⟨B, i, none⟩ = c[i]? := by
  unfold Cb at h
  simp [World.cell?, h]
theorem Cb.frozen {W : World} {B : Nat} {c : Array Value} {t : Nat} (h : Cb W B c t) (i : Nat) : W.frozen? ⟨B, i, none⟩ = false := by
  unfold Cb at h
  simp [World.frozen?, h]
theorem Cb.new (w : World) (c : Array Value) (t : Nat) : Cb (w.alloc (.cells c t)) w.heap.size c t := World.alloc_heap_new w _
theorem Cb.below {W W' : World} {B : Nat} {c : Array Value} {t : Nat} (h : Cb W B c t) (hb : Below W.heap.size W W') : Cb W' B c t := (hb.block _ h.lt).trans h
theorem Cb.set {W : World} {B : Nat} {c : Array Value} {t : Nat} (h : Cb W B c t) (i : Nat) (v : Value) : Cb (W.setCell ⟨B, i, none⟩ v) B (c.setIfInBounds i v) t := by
  obtain ⟨hlt, hk⟩ := Array.getElem?_eq_some_iff.1 h
  show (W.heap.modify B _)[B]? = _
  rw [Array.getElem?_eq_getElem (by rw [Array.size_modify]; exact hlt), Array.getElem_modify_self, hk]
  rfl
theorem cell_eq {A B : World} {b i : Nat} (h : B.heap[b]? = A.heap[b]?) : B.cell? ⟨b, i, none⟩ = A.cell? ⟨b, i, none⟩ := by
  simp [World.cell?, h]
theorem below_set {N : Nat} {w w' : World} (h : Below N w w') (G i : Nat) (v : Value) (hG : N ≤ G) : Below N w (w'.setCell ⟨G, i, none⟩ v) :=
  ⟨h.os, h.tape, h.output, Nat.le_trans h.size (KeepsWalks.setCell w' _ v).size, fun k hk => (Below.heap_setCell _ _ _ k (show k ≠ G by omega)).trans (h.block k hk)⟩
/-- All that stood there but one block stands there still. -/
structure KG (G : Nat) (A B : World) : Prop where
  size : A.heap.size ≤ B.heap.size
  blk : ∀ b, b < A.heap.size → b ≠ G → B.heap[b]? = A.heap[b]?
theorem KG.refl (G : Nat) (A : World) : KG G A A := ⟨Nat.le_refl _, fun _ _ _ => rfl⟩
theorem KG.set {G : Nat} {A B : World} (h : KG G A B) (i : Nat) (v : Value) : KG G A (B.setCell ⟨G, i, none⟩ v) :=
  ⟨Nat.le_trans h.size (KeepsWalks.setCell B _ v).size, fun b h1 h2 => (Below.heap_setCell _ _ _ b (show b ≠ G from h2)).trans (h.blk b h1 h2)⟩
/-- Which classes were there. -/
def hs (L : List Nat) : Array Value := ((List.range 20).map fun k => Value.bool (hsc L k)).toArray
theorem hs_at (L : List Nat) (k : Nat) (h : k < 20) : (hs L)[k]? = some (.bool (hsc L k)) := by
  unfold hs
  simp [h]
theorem hs_snoc (L : List Nat) (c : Nat) : (hs L).setIfInBounds c (.bool true) = hs (L ++ [c]) := by
  unfold hs
  rw [List.setIfInBounds_toArray]
  congr 1
  apply List.ext_getElem?
  intro j
  rw [List.getElem?_set]
  by_cases hj : j < 20
  · by_cases e : c = j
    · subst e
      rw [if_pos rfl]
      simp [hj, hsc]
    · rw [if_neg e]
      simp [hj, hsc_snoc]
      exact fun h => absurd h.symm e
  · by_cases e : c = j
    · subst e
      simp [hj]
    · rw [if_neg e]
      simp [hj]
theorem get_wd (Q r c : Nat) (w : World) (h : Dc.Bk Dc.wdU Dc.wdW Q w) (hr : r ≤ 1114111) (hc : wdcls (r : Int) = (c : Int)) :
    Calls Tryd.prog 38 #[.pointer (some ⟨Q, 0, none⟩), .int .i32 (r : Int)] w fun e w' => e = .returned (.int .i64 (c : Int)) ∧ w' = w := by
  obtain ⟨B, nv, sv, vs, h1⟩ := h
  have h5 := Dc.rget_any B Q Dc.wdU.length Dc.wdU Dc.wdW nv sv vs r w h1 Dc.wd_cov Dc.wd_cls (by decide) (by decide +kernel)
  have e1 : Dc.instd (r : Int) = (r : Int) := by unfold Dc.instd; rw [if_neg (by omega)]
  have e2 := Dc.wd_get (r : Int) (by omega) (by omega)
  rw [e1, ← e2, hc] at h5
  exact h5
set_option maxHeartbeats 1000000 in
theorem rin_any (Q G k : Nat) (v : Bool) (w : World) (h : Dc.Bk Dc.wdU Dc.wdW Q w) (hk : k < 20) (hc : w.cell? ⟨G, k, none⟩ = some (.bool v)) (b : List UInt8) (hb : Dc.wdN (k : Int) = b) :
    Calls Tryd.prog 39 #[.pointer (some ⟨Q, 0, none⟩), .slice (some ⟨G, 0, none⟩) 20 20, .string ⟨b.toArray⟩] w fun e w' => e = .returned (.bool v) ∧ w' = w := by
  obtain ⟨B, nv, sv, vs, h1⟩ := h
  obtain ⟨ao, ac, rfl, hr⟩ := Dc.rdn_own h1.hN rfl
  have HC := hid (Dc.rclass_any Q ao ac Dc.wdU.length Dc.wdU b w h1.c0 hr rfl (by decide))
  have e1 : Dc.clx Dc.wdU b = (k : Int) := by
    rw [← hb]
    have H : ∀ a : Fin 20, Dc.clx Dc.wdU (Dc.wdN ((a : Nat) : Int)) = ((a : Nat) : Int) := by decide +kernel
    exact H ⟨k, hk⟩
  rw [e1] at HC
  clear e1 hb h1 hr
  obtain ⟨y, hy⟩ : ∃ y, y = Dc.cly Dc.wdU b := ⟨_, rfl⟩
  rw [← hy] at HC
  clear hy
  have k0 : (0 : Int) ≤ (k : Int) := by omega
  have k1 : (k : Int) < 20 := by omega
  go_enter Tryd.func39, Tryd.ntmps39
  go_wp2_with fail
  refine HC.out.mono ?_
  rintro e w1 ⟨rfl, hw1⟩
  obtain rfl := hw1.symm
  clear hw1
  go_wp2
  go_ret
  exact ⟨rfl, rfl⟩
theorem Tryd.info4 : (Tryd.prog.info? 4).map (fun i => (i.zero, i.size, i.bytes)) = some (some (.bool false), 1, 1) := by kernel_rfl
theorem mk20 (W : World) : (Instr.makeSlice 52 (.int .i64 20) (.int .i64 20)).run Tryd.prog W = .ok (.slice (some ⟨W.heap.size, 0, none⟩) 20 20) (W.alloc (.cells (hs []) 4)) := by
  obtain ⟨i0, hi, hz0, hz1, hz2⟩ := info_parts Tryd.info4
  have h := run_make (P := Tryd.prog) W 52 4 i0 (.bool false) Tryd.underlying52 hi hz0 .i64 .i64 20 20 (by omega) (Int.le_refl _) (by rw [hz2]; decide) (by omega)
  rw [hz1, Nat.mul_one] at h
  have e : madeCells (Value.bool false).cells 20 = hs [] := by kernel_rfl
  simpa [e] using h
set_option maxHeartbeats 8000000 in
set_option maxRecDepth 100000 in
theorem rkind_any (l : List UInt8) (w : World) (hl : l.length ≤ 1000000) :
    Calls Tryd.prog 13 #[.string ⟨l.toArray⟩] w fun e w' => e = .returned (.int .i64 (rkd (clL l) : Int)) ∧ Below w.heap.size w w' := by
  go_enter Tryd.func13, Tryd.ntmps13
  go_wp2_with fail
  refine (Dc.db12 w).mono ?_
  rintro e w1 ⟨b1, Q, rfl, k1⟩
  have HB1 := hid b1
  have HK1 := hid k1
  obtain ⟨a0, ac, z0, _⟩ := k1.names 0 _ rfl
  rw [show Dc.wdU.length = 20 from rfl] at z0
  clear b1 k1
  have hmk := mk20 w1
  obtain ⟨w2, hw2⟩ : ∃ w2, w2 = w1.alloc (.cells (hs []) 4) := ⟨_, rfl⟩
  rw [← hw2] at hmk
  obtain ⟨G, hG⟩ : ∃ G, G = w1.heap.size := ⟨_, rfl⟩
  have HC2 := hid (show Cb w2 G (hs []) 4 by rw [hw2, hG]; exact Cb.new w1 _ 4)
  have HL2 := hid (show Below w1.heap.size w1 w2 by rw [hw2]; exact (Below.refl _ _).alloc (Nat.le_refl _) _)
  rw [← hG] at hmk
  have HG := hid hG
  clear hw2 hG
  go_wp2_with fail
  refine (Dc.rrunes_rd l w2 hl).mono ?_
  rintro e w3 ⟨xo, xc, rfl, hr, b2⟩
  have HR := hid hr
  have HL3 := hid (HL2.out.trans (b2.mono HL2.out.size))
  have HC3 := hid (HC2.out.below b2)
  have HN := hid (txt_len l)
  obtain ⟨n, hn⟩ : ∃ n, n = (Dc.txt l).length := ⟨_, rfl⟩
  have n9 : n ≤ 1000000 := by
    have h2 := Dc.plr_len l l.length 0 (by omega)
    have h3 := Dc.cls_len l.length (Dc.plr l 0)
    have h4 : (Dc.txt l).length = (Dc.plr l 0).length := h3
    omega
  rw [← hn] at HN ⊢
  clear hr b2 hn HL2 HC2 hmk z0
  go_wp2
  go_loopw [6, 7] (fun p x wr => ∃ k : Nat, k ≤ n ∧ x = .int .i64 (k : Int) ∧ p = .bool (plA ((clL l).take k)) ∧ Hid (Below w1.heap.size w1 wr) ∧ Hid (KG G w3 wr) ∧ Hid (Cb wr G (hs ((clL l).take k)) 4)) (fun _ x _ => n - (intOf x).toNat)
  case atStart => exact ⟨0, by omega, rfl, rfl, HL3.out, KG.refl G w3, HC3.out⟩
  case round =>
    obtain ⟨k, hk, rfl, rfl, HL, HKG, HC⟩ := hrel
    by_cases h0 : k < n
    · have hj : k < (rl l).length := by have := HN.out; omega
      have HE := hid (List.getElem?_eq_getElem hj)
      obtain ⟨x, hx⟩ : ∃ x, x = (rl l)[k] := ⟨_, rfl⟩
      rw [← hx] at HE
      obtain ⟨g, rfl, hg, q0, _, _⟩ := HR.out k _ (txt_at l k x HE.out)
      have hgG : g ≠ G := fun e => by
        subst e
        rw [HC3.out.cell] at q0
        by_cases h9 : k * 3 < 20
        · rw [hs_at _ _ h9] at q0; cases q0
        · rw [Array.getElem?_eq_none (by simp [hs]; omega)] at q0; cases q0
      have z0 := (cell_eq (i := k * 3) (HKG.out.blk g hg hgG)).trans q0
      have HRU := hid (rl_rune l x (by rw [hx]; exact List.getElem_mem hj))
      obtain ⟨c, hc, hc2⟩ := wdcls_nat x.1
      have HS := hid (clL_snoc l k x c HE.out hc)
      have HB := hid (HK1.out.below HL.out)
      have HGET := hid (get_wd Q x.1 c wr HB.out HRU.out hc)
      have hcU : c < Dc.wdU.length := hc2
      obtain ⟨u, hu⟩ : ∃ u, u = Dc.wdN (c : Int) := ⟨_, rfl⟩
      have HU := hid hu
      have hcu : Dc.wdU[c]? = some u := by
        rw [hu]
        unfold Dc.wdN
        rw [Int.toNat_natCast, List.getD_eq_getElem?_getD, List.getElem?_eq_getElem hcU]
        rfl
      have HL' := hid (below_set HL.out G c (.bool true) (by have := HG.out; omega))
      have HB' := hid (HK1.out.below HL'.out)
      obtain ⟨a, ac2, s0, s1⟩ := HB'.out.names c u hcu
      rw [show Dc.wdU.length = 20 from rfl] at s0
      have hst := HC.out.cell c
      rw [hs_at _ _ hc2] at hst
      have hfr := HC.out.frozen c
      have HKG' := hid (HKG.out.set c (.bool true))
      have HC' := hid (show Cb (wr.setCell ⟨G, c, none⟩ (.bool true)) G (hs ((clL l).take (k + 1))) 4 by rw [HS.out, ← hs_snoc]; exact HC.out.set c (.bool true))
      obtain ⟨b, hb⟩ : ∃ b, b = plA ((clL l).take k) := ⟨_, rfl⟩
      have HP := hid (show plA ((clL l).take (k + 1)) = (b && pln c) by rw [HS.out, plA_snoc, hb])
      rw [← hb]
      obtain ⟨X0, hX0⟩ : ∃ X0, X0 = (x.1 : Int) := ⟨_, rfl⟩
      rw [← hX0] at z0 HGET
      have i0 : (0 : Int) ≤ (k : Int) := by omega
      have i1 : (k : Int) < (n : Int) := by omega
      have c0 : (0 : Int) ≤ (c : Int) := by omega
      have c1 : (c : Int) < 20 := by omega
      have HC2' := hid hc2
      clear hX0 hb hu hcU hcu hj hx hc hc2 q0 hgG HB' HL HKG HC HB
      go_wp2_with fail
      refine HGET.out.mono ?_
      rintro e w4 ⟨rfl, hw4⟩
      obtain rfl := hw4.symm
      clear hw4 HGET
      cases b with
      | false =>
        go_wp2
        go_roundw
        case rel => exact ⟨k + 1, by omega, by go_num, by rw [HP.out]; first | rfl | (rw [HPL.out]; rfl), HL'.out, HKG'.out, HC'.out⟩
        case measure => simp [intOf]; omega
      | true =>
        by_cases d18 : c = 18
        · have HPL := hid (show pln c = true by rw [d18]; rfl)
          obtain rfl : u = [83, 112, 97, 99, 101] := HU.out.trans (by rw [d18]; decide +kernel)
          clear d18
          go_wp2
          go_roundw
          case rel => exact ⟨k + 1, by omega, by go_num, by rw [HP.out]; first | rfl | (rw [HPL.out]; rfl), HL'.out, HKG'.out, HC'.out⟩
          case measure => simp [intOf]; omega
        by_cases d4 : c = 4
        · have HPL := hid (show pln c = true by rw [d4]; rfl)
          obtain rfl : u = [69, 120, 116, 101, 110, 100] := HU.out.trans (by rw [d4]; decide +kernel)
          clear d4
          go_wp2
          go_roundw
          case rel => exact ⟨k + 1, by omega, by go_num, by rw [HP.out]; first | rfl | (rw [HPL.out]; rfl), HL'.out, HKG'.out, HC'.out⟩
          case measure => simp [intOf]; omega
        by_cases d6 : c = 6
        · have HPL := hid (show pln c = true by rw [d6]; rfl)
          obtain rfl : u = [70, 111, 114, 109, 97, 116] := HU.out.trans (by rw [d6]; decide +kernel)
          clear d6
          go_wp2
          go_roundw
          case rel => exact ⟨k + 1, by omega, by go_num, by rw [HP.out]; first | rfl | (rw [HPL.out]; rfl), HL'.out, HKG'.out, HC'.out⟩
          case measure => simp [intOf]; omega
        by_cases d5 : c = 5
        · have HPL := hid (show pln c = true by rw [d5]; rfl)
          obtain rfl : u = [90, 119, 106] := HU.out.trans (by rw [d5]; decide +kernel)
          clear d5
          go_wp2
          go_roundw
          case rel => exact ⟨k + 1, by omega, by go_num, by rw [HP.out]; first | rfl | (rw [HPL.out]; rfl), HL'.out, HKG'.out, HC'.out⟩
          case measure => simp [intOf]; omega
        have HPL := hid (show pln c = false by unfold pln; rw [beq_eq_false_iff_ne.2 d18, beq_eq_false_iff_ne.2 d4, beq_eq_false_iff_ne.2 d6, beq_eq_false_iff_ne.2 d5]; rfl)
        have u18 : (u == [83, 112, 97, 99, 101]) = false := by rw [HU.out]; exact wdN_ne c HC2'.out 18 (by omega) d18 _ (by decide +kernel)
        have u4 : (u == [69, 120, 116, 101, 110, 100]) = false := by rw [HU.out]; exact wdN_ne c HC2'.out 4 (by omega) d4 _ (by decide +kernel)
        have u6 : (u == [70, 111, 114, 109, 97, 116]) = false := by rw [HU.out]; exact wdN_ne c HC2'.out 6 (by omega) d6 _ (by decide +kernel)
        have u5 : (u == [90, 119, 106]) = false := by rw [HU.out]; exact wdN_ne c HC2'.out 5 (by omega) d5 _ (by decide +kernel)
        clear d18 d4 d6 d5
        go_wp2
        go_roundw
        case rel => exact ⟨k + 1, by omega, by go_num, by rw [HP.out]; first | rfl | (rw [HPL.out]; rfl), HL'.out, HKG'.out, HC'.out⟩
        case measure => simp [intOf]; omega
    · have h0' : ¬ (k : Int) < (n : Int) := by omega
      have htk : (clL l).take k = clL l := List.take_of_length_le (by rw [clL_len]; have := HN.out; omega)
      rw [htk] at HC ⊢
      have HB := hid (HK1.out.below HL.out)
      have HBW := hid (HB1.out.trans (HL.out.mono HB1.out.size))
      have HRK := hid (show rkd (clL l) = if (hsc (clL l) 10 || hsc (clL l) 9 || hsc (clL l) 8) = true then 4 else if hsc (clL l) 16 = true then 3 else if (hsc (clL l) 3 || hsc (clL l) 1 || hsc (clL l) 2) = true then 2 else if (hsc (clL l) 18 && plA (clL l)) = true then 1 else 0 from rfl)
      have HI10 := hid (rin_any Q G 10 (hsc (clL l) 10) wr HB.out (by omega) ((HC.out.cell 10).trans (hs_at _ 10 (by omega))) [76, 101, 116, 116, 101, 114] (by decide +kernel))
      obtain ⟨v10, hv10⟩ : ∃ v, v = hsc (clL l) 10 := ⟨_, rfl⟩
      rw [← hv10] at HRK HI10
      clear hv10
      have HI9 := hid (rin_any Q G 9 (hsc (clL l) 9) wr HB.out (by omega) ((HC.out.cell 9).trans (hs_at _ 9 (by omega))) [72, 101, 98, 114, 101, 119] (by decide +kernel))
      obtain ⟨v9, hv9⟩ : ∃ v, v = hsc (clL l) 9 := ⟨_, rfl⟩
      rw [← hv9] at HRK HI9
      clear hv9
      have HI8 := hid (rin_any Q G 8 (hsc (clL l) 8) wr HB.out (by omega) ((HC.out.cell 8).trans (hs_at _ 8 (by omega))) [75, 97, 116, 97, 107, 97, 110, 97] (by decide +kernel))
      obtain ⟨v8, hv8⟩ : ∃ v, v = hsc (clL l) 8 := ⟨_, rfl⟩
      rw [← hv8] at HRK HI8
      clear hv8
      have HI16 := hid (rin_any Q G 16 (hsc (clL l) 16) wr HB.out (by omega) ((HC.out.cell 16).trans (hs_at _ 16 (by omega))) [68, 105, 103, 105, 116] (by decide +kernel))
      obtain ⟨v16, hv16⟩ : ∃ v, v = hsc (clL l) 16 := ⟨_, rfl⟩
      rw [← hv16] at HRK HI16
      clear hv16
      have HI3 := hid (rin_any Q G 3 (hsc (clL l) 3) wr HB.out (by omega) ((HC.out.cell 3).trans (hs_at _ 3 (by omega))) [78, 101, 119, 108, 105, 110, 101] (by decide +kernel))
      obtain ⟨v3, hv3⟩ : ∃ v, v = hsc (clL l) 3 := ⟨_, rfl⟩
      rw [← hv3] at HRK HI3
      clear hv3
      have HI1 := hid (rin_any Q G 1 (hsc (clL l) 1) wr HB.out (by omega) ((HC.out.cell 1).trans (hs_at _ 1 (by omega))) [67, 114] (by decide +kernel))
      obtain ⟨v1, hv1⟩ : ∃ v, v = hsc (clL l) 1 := ⟨_, rfl⟩
      rw [← hv1] at HRK HI1
      clear hv1
      have HI2 := hid (rin_any Q G 2 (hsc (clL l) 2) wr HB.out (by omega) ((HC.out.cell 2).trans (hs_at _ 2 (by omega))) [76, 102] (by decide +kernel))
      obtain ⟨v2, hv2⟩ : ∃ v, v = hsc (clL l) 2 := ⟨_, rfl⟩
      rw [← hv2] at HRK HI2
      clear hv2
      have HI18 := hid (rin_any Q G 18 (hsc (clL l) 18) wr HB.out (by omega) ((HC.out.cell 18).trans (hs_at _ 18 (by omega))) [83, 112, 97, 99, 101] (by decide +kernel))
      obtain ⟨v18, hv18⟩ : ∃ v, v = hsc (clL l) 18 := ⟨_, rfl⟩
      rw [← hv18] at HRK HI18
      clear hv18
      obtain ⟨vp, hvp⟩ : ∃ v, v = plA (clL l) := ⟨_, rfl⟩
      rw [← hvp] at HRK ⊢
      clear hvp
      go_wp2_with fail
      refine HI10.out.mono ?_
      rintro e w5 ⟨rfl, hw5⟩
      obtain rfl := hw5.symm
      clear hw5
      cases v10 with
      | true =>
        go_wp2
        go_ret
        exact ⟨by rw [HRK.out]; rfl, HBW.out⟩
      | false =>
        go_wp2_with fail
        refine HI9.out.mono ?_
        rintro e w5 ⟨rfl, hw5⟩
        obtain rfl := hw5.symm
        clear hw5
        cases v9 with
        | true =>
          go_wp2
          go_ret
          exact ⟨by rw [HRK.out]; rfl, HBW.out⟩
        | false =>
          go_wp2_with fail
          refine HI8.out.mono ?_
          rintro e w5 ⟨rfl, hw5⟩
          obtain rfl := hw5.symm
          clear hw5
          cases v8 with
          | true =>
            go_wp2
            go_ret
            exact ⟨by rw [HRK.out]; rfl, HBW.out⟩
          | false =>
            go_wp2_with fail
            refine HI16.out.mono ?_
            rintro e w5 ⟨rfl, hw5⟩
            obtain rfl := hw5.symm
            clear hw5
            cases v16 with
            | true =>
              go_wp2
              go_ret
              exact ⟨by rw [HRK.out]; rfl, HBW.out⟩
            | false =>
              go_wp2_with fail
              refine HI3.out.mono ?_
              rintro e w5 ⟨rfl, hw5⟩
              obtain rfl := hw5.symm
              clear hw5
              cases v3 with
              | true =>
                go_wp2
                go_ret
                exact ⟨by rw [HRK.out]; rfl, HBW.out⟩
              | false =>
                go_wp2_with fail
                refine HI1.out.mono ?_
                rintro e w5 ⟨rfl, hw5⟩
                obtain rfl := hw5.symm
                clear hw5
                cases v1 with
                | true =>
                  go_wp2
                  go_ret
                  exact ⟨by rw [HRK.out]; rfl, HBW.out⟩
                | false =>
                  go_wp2_with fail
                  refine HI2.out.mono ?_
                  rintro e w5 ⟨rfl, hw5⟩
                  obtain rfl := hw5.symm
                  clear hw5
                  cases v2 with
                  | true =>
                    go_wp2
                    go_ret
                    exact ⟨by rw [HRK.out]; rfl, HBW.out⟩
                  | false =>
                    go_wp2_with fail
                    refine HI18.out.mono ?_
                    rintro e w5 ⟨rfl, hw5⟩
                    obtain rfl := hw5.symm
                    clear hw5
                    cases v18 with
                    | true =>
                      cases vp with
                      | true =>
                        go_wp2
                        go_ret
                        exact ⟨by rw [HRK.out]; rfl, HBW.out⟩
                      | false =>
                        go_wp2
                        go_ret
                        exact ⟨by rw [HRK.out]; rfl, HBW.out⟩
                    | false =>
                      go_wp2
                      go_ret
                      exact ⟨by rw [HRK.out]; rfl, HBW.out⟩
end Go.Proofs.YtkophiklkgefnaaDoor.Wd
/- WordKinds. -/
namespace Go.Proofs.YtkophiklkgefnaaDoor.Wd
open Go.RowKit
theorem clL_lt (l : List UInt8) : ∀ c ∈ clL l, c < 20 := fun c hc => by
  unfold clL at hc
  obtain ⟨x, _, rfl⟩ := List.mem_map.1 hc
  obtain ⟨n, h1, h2⟩ := wdcls_nat x.1
  rw [h1]
  simpa using h2
set_option maxHeartbeats 1000000 in
set_option maxRecDepth 100000 in
theorem kinds_main (l : List UInt8) (w : World) (hv : Ev.Tbs tabs w) : Calls Tryd.prog 3 #[.string ⟨l.toArray⟩] w fun e w' => e = .returned (.bool true) ∧ Below w.heap.size w w' := by
  have HV := hid hv
  clear hv
  by_cases hl : 5000 < l.length
  · have hl' : (5000 : Int) < (l.length : Int) := by omega
    go_enter Tryd.func3, Tryd.ntmps3
    go_wp2_with fail
    refine (lives12 w HV.out).mono ?_
    rintro e w1 ⟨rfl, be⟩
    have HB := hid be
    clear be
    go_wp2
    go_ret
    exact ⟨rfl, HB.out⟩
  · have hl' : ¬ (5000 : Int) < (l.length : Int) := by omega
    go_enter Tryd.func3, Tryd.ntmps3
    go_wp2_with fail
    refine (wkind_any l w HV.out).mono ?_
    rintro e w1 ⟨rfl, be⟩
    have HB := hid be
    clear be
    rw [kinds_same (clL l) (clL_lt l)]
    obtain ⟨n, hn⟩ : ∃ n, n = rkd (clL l) := ⟨_, rfl⟩
    rw [← hn]
    have HN := hid hn
    clear hn
    go_wp2_with fail
    refine (rkind_any l w1 (by omega)).mono ?_
    rintro e w2 ⟨rfl, be⟩
    have HB2 := hid (HB.out.trans (be.mono HB.out.size))
    clear be
    rw [← HN.out]
    go_wp2_with fail
    refine (lives12 w2 (tbs_below HV.out HB2.out)).mono ?_
    rintro e w3 ⟨rfl, be⟩
    have HB3 := hid (HB2.out.trans (be.mono HB2.out.size))
    clear be
    go_wp2
    go_ret
    exact ⟨rfl, HB3.out⟩
end Go.Proofs.YtkophiklkgefnaaDoor.Wd
