/- The program's reader, step by step, and what is known of the bytes. -/
import Derived.Test.YtkmcbhdjecpmjaaDoorTake8Joint
import Derived.Test.YtkmcbhdjecpmjaaDoorGMath
import Derived.Test.YtkmcbhdjecpmjaaDoorCopy7
import Derived.Test.YtkmcbhdjecpmjaaDoorRCheck7
namespace Go.Proofs.YtkmcbhdjecpmjaaDoor
open Go.RowKit

/-- The reader at X: what is left of the bytes that lay in w, and whether it failed. -/
def RS (X : Nat) (w : World) (r : List Nat) (bad : Bool) (wr : World) : Prop :=
  ∃ (ro : Option Addr) (rl rc : Nat), wr.heap[X]? = some (.cells #[.slice ro rl rc, .bool bad] 117) ∧ RdU w ro r ∧ rl = r.length ∧ rl ≤ rc ∧ rl ≤ 1000000 ∧ ∀ c ∈ r, c < 256
/-- What a number leaves. -/
def NumS (X : Nat) (w : World) (r : List Nat) (bad : Bool) (most : Nat) (wr : World) (e : Ending) (w' : World) : Prop :=
  ∃ (n : Nat) (r' : List Nat) (bad' : Bool), e = .returned (.int .i64 (n : Int)) ∧ n ≤ most ∧ RS X w r' bad' w' ∧ Only X wr w' ∧ ((bad' = bad ∧ r = vn n ++ r') ∨ (bad' = true ∧ NoN most r))
theorem num_step {X most : Nat} {w wr : World} {r : List Nat} {bad : Bool} (h : RS X w r bad wr) (hb : Below w.heap.size w wr) (hm : most ≤ 16383) :
    Calls Tryd.prog 78 #[.pointer (some ⟨X, 0, none⟩), .int .i64 (most : Int)] wr fun e w' => NumS X w r bad most wr e w' := by
  obtain ⟨ro, rl, rc, h1, h2, h3, h4, h5, h6⟩ := h
  refine (number_any X ro rl rc r bad most wr (h2.below hb) h6 h3 h4 h5 h1 hm).mono fun e w' hq => ?_
  rcases hq with ⟨n, r', ro', rl', rc', g1, g2, g3, g4, g5, g6, g7⟩ | ⟨g1, g2, g3⟩
  · subst g4
    refine ⟨n, r', bad, g3, g2, ⟨ro', rl', rc', heap_setCell_same wr X 0 _ 117 _ h1, g7 w h2, g5, g6, ?_, fun c hc => h6 c (by rw [g1]; exact List.mem_append_right _ hc)⟩, (Only.refl _ _).set, .inl ⟨rfl, g1⟩⟩
    have := congrArg List.length g1
    rw [List.length_append] at this
    omega
  · subst g3
    exact ⟨0, r, true, g2, Nat.zero_le _, ⟨ro, rl, rc, heap_setCell_same wr X 1 _ 117 _ h1, h2, h3, h4, h5, h6⟩, (Only.refl _ _).set, .inr ⟨rfl, g1⟩⟩
/-- What is known: nothing is told by these bytes; or the numbers ns stand at their front. -/
def Kn (b ns r : List Nat) (bad : Bool) : Prop := (bad = true ∧ NoD b) ∨ (bad = false ∧ b = encL ns ++ r)
theorem Kn.step {b ns r r' : List Nat} {bad bad' : Bool} {n most : Nat} (h : Kn b ns r bad) (hf : b = encL ns ++ r → NoN most r → NoD b) (ho : (bad' = bad ∧ r = vn n ++ r') ∨ (bad' = true ∧ NoN most r)) : Kn b (ns ++ [n]) r' bad' := by
  rcases h with ⟨rfl, hN⟩ | ⟨rfl, hb⟩
  · rcases ho with ⟨rfl, _⟩ | ⟨rfl, _⟩ <;> exact .inl ⟨rfl, hN⟩
  · rcases ho with ⟨rfl, hr⟩ | ⟨rfl, hn⟩
    · exact .inr ⟨rfl, by rw [hb, hr, encL_snoc, List.append_assoc]⟩
    · exact .inl ⟨rfl, hf hb hn⟩
theorem Kn.begin {b : List Nat} : Kn b [] b false := .inr ⟨rfl, rfl⟩
theorem Kn.c {b r : List Nat} {bad bad' : Bool} {n : Nat} {r' : List Nat} (h : Kn b [] r bad) (ho : (bad' = bad ∧ r = vn n ++ r') ∨ (bad' = true ∧ NoN 64 r)) : Kn b [n] r' bad' :=
  h.step (ns := []) (fun hb hn => noD_c (by rw [hb]; exact hn)) ho
theorem Kn.n {b r : List Nat} {bad bad' : Bool} {c n : Nat} {r' : List Nat} (h : Kn b [c] r bad) (ho : (bad' = bad ∧ r = vn n ++ r') ∨ (bad' = true ∧ NoN 1024 r)) : Kn b (itN c n [] []) r' bad' :=
  h.step (ns := [c]) (fun hb hn => noD_n (r := r) (c := c) (by rw [hb]; simp [encL]) hn) ho
theorem Kn.t {b r r' : List Nat} {bad bad' : Bool} {c n t : Nat} {R : Rw} {T : List Int} (h : Kn b (itN c n R T) r bad) (hs : Shp c R T) (hk : R.length < n) (ho : (bad' = bad ∧ r = vn t ++ r') ∨ (bad' = true ∧ NoN 1 r)) : Kn b (itN c n R T ++ itR (t : Int) []) r' bad' :=
  h.step (fun hb hn => noD_t hb hs hk hn) ho
theorem Kn.x {b r r' : List Nat} {bad bad' : Bool} {c n y : Nat} {R : Rw} {T : List Int} {t : Int} {ro : List Int} (h : Kn b (itN c n R T ++ itR t ro) r bad) (hs : Shp c R T) (hk : R.length < n) (hj : ro.length < c) (ho : (bad' = bad ∧ r = vn y ++ r') ∨ (bad' = true ∧ NoN n r)) : Kn b (itN c n R T ++ itR t (ro ++ [(y : Int) - 1])) r' bad' := by
  have h1 := h.step (fun hb hn => noD_x hb hs hk hj hn) ho
  have e : itR t (ro ++ [(y : Int) - 1]) = itR t ro ++ [y] := by simp [itR]
  rw [e, ← List.append_assoc]
  exact h1
theorem Kn.row {b r : List Nat} {bad : Bool} {c n : Nat} {R : Rw} {T : List Int} {t : Int} {ro : List Int} (h : Kn b (itN c n R T ++ itR t ro) r bad) (hs : Shp c R T) : Kn b (itN c n (R ++ [ro]) (T ++ [t])) r bad := by
  have e : itN c n (R ++ [ro]) (T ++ [t]) = itN c n R T ++ itR t ro := by
    unfold itN
    rw [itRs_snoc ro t hs.len]
    rfl
  rw [e]
  exact h
theorem Shp.nil (c : Nat) : Shp c [] [] := ⟨rfl, fun _ h => (by cases h), fun _ h => (by cases h)⟩
theorem Shp.add {c : Nat} {R : Rw} {T : List Int} {ro : List Int} {t : Int} (h : Shp c R T) (hl : ro.length = c) (hx : ∀ x ∈ ro, -1 ≤ x) (ht : 0 ≤ t) : Shp c (R ++ [ro]) (T ++ [t]) := by
  refine ⟨by rw [List.length_append, List.length_append, h.len]; rfl, fun row hr => ?_, fun u hu => ?_⟩
  · rcases List.mem_append.1 hr with h1 | h1
    · exact h.row row h1
    · rw [List.mem_singleton.1 h1]; exact ⟨hl, hx⟩
  · rcases List.mem_append.1 hu with h1 | h1
    · exact h.tk u h1
    · rw [List.mem_singleton.1 h1]; exact ht
/-- What Get leaves: the automaton that the bytes tell, or an error where they tell none. -/
def GtQ (w : World) (b : List Nat) (e : Ending) (w' : World) : Prop :=
  (∃ (c : Int) (R : Rw) (T : List Int) (no to : Option Addr) (nc tc : Nat), Gd c R T ∧ encD c R T = b ∧ e = .returned (.tuple #[.agg #[.int .i64 c, .slice no R.length nc, .slice to T.length tc], .int .i64 0]) ∧ DRd w' no R.length to T.length R T ∧ Below w.heap.size w w') ∨
  (NoD b ∧ e = .returned (.tuple #[.agg #[.int .i64 0, .slice none 0 0, .slice none 0 0], .int .i64 71]) ∧ Below w.heap.size w w')
/-- The end of a reading: all was read, and the automaton is one; or the bytes tell none. -/
theorem Kn.good {b : List Nat} {c n : Nat} {R : Rw} {T : List Int} (h : Kn b (itN c n R T) [] false) (hk : R.length = n) (g : Gd (c : Int) R T) : encD (c : Int) R T = b := by
  rcases h with ⟨h, _⟩ | ⟨_, hb⟩
  · cases h
  · rw [encD_itN g.tl, hb, List.append_nil, hk]; simp
theorem Kn.no {b r : List Nat} {c n : Nat} {R : Rw} {T : List Int} {bad : Bool} (h : Kn b (itN c n R T) r bad) (hs : Shp c R T) (hk : bad = false → R.length = n) (hn : bad = true ∨ r ≠ [] ∨ ¬ Gd (c : Int) R T) : NoD b := by
  rcases h with ⟨_, h⟩ | ⟨rfl, hb⟩
  · exact h
  · by_cases hr : r = []
    · subst hr
      rw [List.append_nil] at hb
      rcases hn with h | h | h
      · cases h
      · exact absurd rfl h
      · exact noD_bad hb hs (hk rfl) h
    · exact noD_more hb hs (hk rfl) hr
/-- The same bytes tell the same automaton. -/
theorem encD_inj {c c' : Int} {R R' : Rw} {T T' : List Int} (g : Gd c R T) (g' : Gd c' R' T') (h : encD c R T = encD c' R' T') : c' = c ∧ R' = R ∧ T' = T := by
  have hs := g.shp
  obtain ⟨h1, h2, h3⟩ := read_all (b := encD c R T) (c := c.toNat) (n := R.length) (by rw [encD_itN g.tl]) hs rfl g' h.symm
  exact ⟨by have := g.c1; omega, h2, h3⟩
end Go.Proofs.YtkmcbhdjecpmjaaDoor
/- An automaton that is being read, in memory: the result's cell at P, the reader at P + 1, the automaton at P + 2. -/
namespace Go.Proofs.YtkmcbhdjecpmjaaDoor
open Go.RowKit

structure GtI (P c k : Nat) (w wr : World) (no : Option Addr) (nc kt : Nat) (to : Option Addr) (tc : Nat) (R : Rw) (T : List Int) (V : List Value) : Prop where
  res : wr.heap[P]? = some (.cells #[.int .i64 0, .slice none 0 0, .slice none 0 0] 32)
  dfa : wr.heap[P + 2]? = some (.cells #[.int .i64 (c : Int), .slice no k nc, .slice to kt tc] 32)
  tk : wr.ownsRow (P + 3) 3 1 (.slice to kt tc) kt (i64s T)
  nx : wr.ownsRow (P + 3) 28 1 (.slice no k nc) k V
  cp : CpR wr (fun q => q < P + 3 ∨ (Value.slice no k nc).ownBlock = some q ∨ (Value.slice to kt tc).ownBlock = some q) R k V
  ap : ∀ q, (Value.slice no k nc).ownBlock = some q → (Value.slice to kt tc).ownBlock ≠ some q
  bel : Below w.heap.size w wr
section
variable {P c k nc kt tc : Nat} {w W W' : World} {no to : Option Addr} {R : Rw} {T : List Int} {V : List Value}
/-- All that it has stays. -/
theorem GtI.keep (h : GtI P c k w W no nc kt to tc R T V) (hP : P = w.heap.size) (hk : ∀ q, q < W.heap.size → q ≠ P + 1 → W'.heap[q]? = W.heap[q]?) (hs : W.heap.size ≤ W'.heap.size) (hos : W'.os = W.os ∧ W'.tape = W.tape ∧ W'.output = W.output) : GtI P c k w W' no nc kt to tc R T V := by
  have l0 := lt_of h.res
  have l2 := lt_of h.dfa
  refine ⟨(hk P l0 (by omega)).trans h.res, (hk (P + 2) l2 (by omega)).trans h.dfa, own_same h.tk (fun q hq hl => hk q hl (by have := (h.tk.lt q hq).1; omega)), own_same h.nx (fun q hq hl => hk q hl (by have := (h.nx.lt q hq).1; omega)), h.cp.keep ⟨hs, fun q hq hx => hk q hq (fun e => hx (.inl (by omega))), fun _ _ h => h⟩, h.ap, h.bel.trans ⟨hos.1, hos.2.1, hos.2.2, hs, fun q hq => hk q (by have := h.bel.size; omega) (by omega)⟩⟩
theorem GtI.only (h : GtI P c k w W no nc kt to tc R T V) (hP : P = w.heap.size) (ho : Only (P + 1) W W') : GtI P c k w W' no nc kt to tc R T V :=
  h.keep hP (fun q _ hq => ho.block q hq) (Nat.le_of_eq ho.size.symm) ⟨ho.os, ho.tape, ho.output⟩
theorem GtI.below (h : GtI P c k w W no nc kt to tc R T V) (hP : P = w.heap.size) (hb : Below W.heap.size W W') : GtI P c k w W' no nc kt to tc R T V :=
  h.keep hP (fun q hq _ => hb.block q hq) hb.size ⟨hb.os, hb.tape, hb.output⟩
/-- One more state that takes, or does not. -/
theorem GtI.take (h : GtI P c k w W no nc kt to tc R T V) (hP : P = w.heap.size) {g gc : Nat} {t : Int} {w8 : World} (o8 : w8.ownsRow (P + 3) 3 1 (.slice (some ⟨g, 0, none⟩) (kt + 1) gc) (kt + 1) (i64s T ++ [.int .i64 t])) (hk : ∀ q, q < W.heap.size → (Value.slice to kt tc).ownBlock ≠ some q → w8.heap[q]? = W.heap[q]?) (hg : (Value.slice to kt tc).ownBlock = some g ∨ W.heap.size ≤ g) (hs : W.heap.size ≤ w8.heap.size) (hos : w8.os = W.os ∧ w8.tape = W.tape ∧ w8.output = W.output) :
    GtI P c k w (w8.setCell ⟨P + 2, 2, none⟩ (.slice (some ⟨g, 0, none⟩) (kt + 1) gc)) no nc (kt + 1) (some ⟨g, 0, none⟩) gc R (T ++ [t]) V := by
  have l0 := lt_of h.res
  have l2 := lt_of h.dfa
  have hge : P + 3 ≤ g := (o8.lt g rfl).1
  have hset : ∀ q, q ≠ P + 2 → (w8.setCell ⟨P + 2, 2, none⟩ (.slice (some ⟨g, 0, none⟩) (kt + 1) gc)).heap[q]? = w8.heap[q]? := fun q hq => heap_setCell_other w8 ⟨P + 2, 2, none⟩ q _ (fun e => hq e)
  have hlow : ∀ q, q < P + 3 → (Value.slice to kt tc).ownBlock ≠ some q := fun q hq e => by have := (h.tk.lt q e).1; omega
  have hss : (w8.setCell ⟨P + 2, 2, none⟩ (.slice (some ⟨g, 0, none⟩) (kt + 1) gc)).heap.size = w8.heap.size := by simp
  refine ⟨(hset P (by omega)).trans ((hk P l0 (hlow P (by omega))).trans h.res), heap_setCell_same w8 (P + 2) 2 _ 32 _ ((hk (P + 2) l2 (hlow _ (by omega))).trans h.dfa), ?_, own_same h.nx (fun q hq hl => (hset q (by have := (h.nx.lt q hq).1; omega)).trans (hk q hl (h.ap q hq))), h.cp.keep ⟨by rw [hss]; exact hs, fun q hq hx => (hset q (fun e => hx (.inl (by omega)))).trans (hk q hq (fun e => hx (.inr (.inr e)))), fun q hq hx => ?_⟩, fun q hq e => ?_, h.bel.trans ⟨hos.1, hos.2.1, hos.2.2, by rw [hss]; exact hs, fun q hq => (hset q (by omega)).trans (hk q (by have := h.bel.size; omega) (hlow q (by omega)))⟩⟩
  · rw [i64s_snoc]
    exact own_same o8 (fun q hq _ => hset q (by have e : g = q := Option.some.inj hq; omega))
  · rcases hx with h1 | h1 | h1
    · exact .inl h1
    · exact .inr (.inl h1)
    · have e : g = q := Option.some.inj h1
      subst e
      rcases hg with h2 | h2
      · exact .inr (.inr h2)
      · omega
  · have e' : g = q := Option.some.inj e
    subst e'
    rcases hg with h2 | h2
    · exact h.ap g hq h2
    · have := (h.nx.lt g hq).2; omega
/-- One more row. -/
theorem GtI.row (h : GtI P c k w W no nc kt to tc R T V) (hP : P = w.heap.size) (hR : R.length = k) {g gc cc : Nat} {co : Option Addr} {ro : List Int} {w8 : World} (o8 : w8.ownsRow (P + 3) 28 1 (.slice (some ⟨g, 0, none⟩) (k + 1) gc) (k + 1) (V ++ [.slice co ro.length cc])) (hk : ∀ q, q < W.heap.size → (Value.slice no k nc).ownBlock ≠ some q → w8.heap[q]? = W.heap[q]?) (hg : (Value.slice no k nc).ownBlock = some g ∨ W.heap.size ≤ g) (hs : W.heap.size ≤ w8.heap.size) (hos : w8.os = W.os ∧ w8.tape = W.tape ∧ w8.output = W.output)
    (hro : RdIx W (fun q => q < P + 3 ∨ (Value.slice no k nc).ownBlock = some q ∨ (Value.slice to kt tc).ownBlock = some q) co ro) :
    GtI P c (k + 1) w (w8.setCell ⟨P + 2, 1, none⟩ (.slice (some ⟨g, 0, none⟩) (k + 1) gc)) (some ⟨g, 0, none⟩) gc kt to tc (R ++ [ro]) T (V ++ [.slice co ro.length cc]) := by
  have l0 := lt_of h.res
  have l2 := lt_of h.dfa
  have hge : P + 3 ≤ g := (o8.lt g rfl).1
  have hset : ∀ q, q ≠ P + 2 → (w8.setCell ⟨P + 2, 1, none⟩ (.slice (some ⟨g, 0, none⟩) (k + 1) gc)).heap[q]? = w8.heap[q]? := fun q hq => heap_setCell_other w8 ⟨P + 2, 1, none⟩ q _ (fun e => hq e)
  have hlow : ∀ q, q < P + 3 → (Value.slice no k nc).ownBlock ≠ some q := fun q hq e => by have := (h.nx.lt q e).1; omega
  have hss : (w8.setCell ⟨P + 2, 1, none⟩ (.slice (some ⟨g, 0, none⟩) (k + 1) gc)).heap.size = w8.heap.size := by simp
  have hV : V.length = k := by have := h.nx.1; omega
  have hkp : Kp W (w8.setCell ⟨P + 2, 1, none⟩ (.slice (some ⟨g, 0, none⟩) (k + 1) gc)) (fun q => q < P + 3 ∨ (Value.slice no k nc).ownBlock = some q ∨ (Value.slice to kt tc).ownBlock = some q) (fun q => q < P + 3 ∨ (Value.slice (some ⟨g, 0, none⟩) (k + 1) gc).ownBlock = some q ∨ (Value.slice to kt tc).ownBlock = some q) := ⟨by rw [hss]; exact hs, fun q hq hx => (hset q (fun e => hx (.inl (by omega)))).trans (hk q hq (fun e => hx (.inr (.inl e)))), fun q hq hx => by
    rcases hx with h1 | h1 | h1
    · exact .inl h1
    · have e : g = q := Option.some.inj h1
      subst e
      rcases hg with h2 | h2
      · exact .inr (.inl h2)
      · omega
    · exact .inr (.inr h1)⟩
  refine ⟨(hset P (by omega)).trans ((hk P l0 (hlow P (by omega))).trans h.res), heap_setCell_same w8 (P + 2) 1 _ 32 _ ((hk (P + 2) l2 (hlow _ (by omega))).trans h.dfa), own_same h.tk (fun q hq hl => (hset q (by have := (h.tk.lt q hq).1; omega)).trans (hk q hl (fun e => h.ap q e hq))), own_same o8 (fun q hq _ => hset q (by have e : g = q := Option.some.inj hq; omega)), ?_, fun q hq e => ?_, h.bel.trans ⟨hos.1, hos.2.1, hos.2.2, by rw [hss]; exact hs, fun q hq => (hset q (by omega)).trans (hk q (by have := h.bel.size; omega) (hlow q (by omega)))⟩⟩
  · have h1 : CpR (w8.setCell ⟨P + 2, 1, none⟩ (.slice (some ⟨g, 0, none⟩) (k + 1) gc)) (fun q => q < P + 3 ∨ (Value.slice (some ⟨g, 0, none⟩) (k + 1) gc).ownBlock = some q ∨ (Value.slice to kt tc).ownBlock = some q) (R ++ [ro]) k V := fun j row hj hr => (h.cp.keep hkp) j row hj (by rw [List.getElem?_append_left (by omega)] at hr; exact hr)
    exact h1.next hV (by rw [List.getElem?_append_right (by omega), hR]; simp) (hro.keep hkp)
  · have e' : g = q := Option.some.inj hq
    subst e'
    rcases hg with h2 | h2
    · exact h.ap g h2 e
    · have := (h.tk.lt g e).2; omega
/-- Once it is whole, it reads. -/
theorem GtI.reads (h : GtI P c k w W no nc kt to tc R T V) (hR : k = R.length) (hT : kt = T.length) (hk : k ≤ 1024) (hkt : kt ≤ 1024) (hr : ∀ row ∈ R, row.length ≤ most) : DRd W no k to kt R T :=
  ⟨hR, hT, rdr_of h.nx h.cp hR hr, rdi_own h.tk, by unfold most; omega, by unfold most; omega⟩
theorem GtI.reads2 (h : GtI P c k w W no nc kt to tc R T V) (hkp : ∀ q, q < W.heap.size → P + 3 ≤ q → W'.heap[q]? = W.heap[q]?) (hs : W.heap.size ≤ W'.heap.size) (hR : k = R.length) (hT : kt = T.length) (hk : k ≤ 1024) (hkt : kt ≤ 1024) (hr : ∀ row ∈ R, row.length ≤ most) : DRd W' no k to kt R T :=
  ⟨hR, hT, rdr_of (own_same h.nx (fun q hq hl => hkp q hl (h.nx.lt q hq).1)) (h.cp.keep ⟨hs, fun q hq hx => hkp q hq (Nat.le_of_not_lt (fun e => hx (.inl e))), fun _ _ h => h⟩) hR hr, rdi_own (own_same h.tk (fun q hq hl => hkp q hl (h.tk.lt q hq).1)), by unfold most; omega, by unfold most; omega⟩
theorem RS.keep {X : Nat} {w W W' : World} {r : List Nat} {bad : Bool} (h : RS X w r bad W) (hk : W'.heap[X]? = W.heap[X]?) : RS X w r bad W' := by
  obtain ⟨ro, rl, rc, h1, h2⟩ := h
  exact ⟨ro, rl, rc, hk.trans h1, h2⟩
theorem RS.lt {X : Nat} {w W : World} {r : List Nat} {bad : Bool} (h : RS X w r bad W) : X < W.heap.size := by
  obtain ⟨ro, rl, rc, h1, h2⟩ := h
  exact lt_of h1
/-- The state at the head of a round: k rows are read. -/
def GtH (P c n : Nat) (w : World) (b : List Nat) (k : Nat) (bad : Bool) (wr : World) : Prop :=
  ∃ (no : Option Addr) (nc : Nat) (to : Option Addr) (tc : Nat) (R : Rw) (T : List Int) (V : List Value) (r : List Nat), GtI P c k w wr no nc k to tc R T V ∧ RS (P + 1) w r bad wr ∧ Kn b (itN c n R T) r bad ∧ Shp c R T ∧ R.length = k
end
end Go.Proofs.YtkmcbhdjecpmjaaDoor
/- A row that is being read; and how a result in a cell beside a number is given back. -/
namespace Go.Proofs.YtkmcbhdjecpmjaaDoor
open Go.RowKit

theorem results_row_tmp {P : Program} {fn : Func} {p u : Tmp} {ty : TypeId} (h : fn.results = #[.cell p ty, .tmp u]) (tmps : Array Value) (w : World) (g : Nat) (t : TypeId) (cs : Array Value) (fr : Nat × Nat) (d : TypeDesc)
    (hp : tmps.getD p undef = .pointer (some ⟨g, 0, none⟩)) (hg : w.heap[g]? = some (.cells cs t fr))
    (hu : P.underlying ty = some d) (hd : (match d with | .struct _ | .array _ _ => true | _ => false) = true) (hi : (P.info? ty).map (·.size) = some cs.size) :
    (results fn tmps).run P w = .ok (.tuple #[.agg cs, tmps.getD u undef]) w := by
  have hp' : tmps[p]?.getD undef = .pointer (some ⟨g, 0, none⟩) := by simpa using hp
  simp [results, h, hp', asAddr, run_loadVar_row w g t ty cs fr d hg hu hd hi]
/-- A row of c numbers at g, of which the first are read. -/
def RowA (g c : Nat) (ro : List Int) (wr : World) : Prop := wr.heap[g]? = some (.cells (i64s (ro ++ List.replicate (c - ro.length) 0)).toArray 3)
theorem RowA.begin {w : World} {c : Nat} : RowA w.heap.size c [] (w.alloc (.cells (madeCells (Value.int .i64 0).cells c) 3)) := by
  unfold RowA
  rw [al_new _ _ rfl]
  congr 2
  apply Array.toList_inj.1
  rw [show (Value.int .i64 0).cells = #[.int .i64 0] from rfl, toList_madeCells_one]
  simp [i64s]
theorem RowA.cell {g c : Nat} {ro : List Int} {wr : World} (h : RowA g c ro wr) (hj : ro.length < c) : wr.cell? ⟨g, ro.length, none⟩ = some (.int .i64 0) ∧ wr.frozen? ⟨g, ro.length, none⟩ = false := by
  have h' : wr.heap[g]? = some (.cells (i64s (ro ++ List.replicate (c - ro.length) 0)).toArray 3) := h
  refine ⟨?_, frozen_of_row wr g _ _ 3 h'⟩
  rw [cell_of_row wr g _ _ 3 (0, 0) h', List.getElem?_toArray, i64s_at, List.getElem?_append_right (Nat.le_refl _), Nat.sub_self, List.getElem?_replicate, if_pos (by omega)]
  rfl
theorem RowA.set {g c : Nat} {ro : List Int} {wr : World} (h : RowA g c ro wr) (hj : ro.length < c) (z : Int) : RowA g c (ro ++ [z]) (wr.setCell ⟨g, ro.length, none⟩ (.int .i64 z)) := by
  have h' : wr.heap[g]? = some (.cells (i64s (ro ++ List.replicate (c - ro.length) 0)).toArray 3) := h
  unfold RowA
  rw [heap_setCell_same wr g ro.length _ 3 _ h', List.setIfInBounds_toArray]
  congr 3
  rw [show c - ro.length = (c - (ro ++ [z]).length) + 1 by simp; omega, List.replicate_succ]
  simp [i64s]
/-- Once it is whole, it reads. -/
theorem RowA.reads {g c : Nat} {ro : List Int} {wr : World} {X : Nat → Prop} (h : RowA g c ro wr) (hX : ¬ X g) : RdIx wr X (some ⟨g, 0, none⟩) ro := fun k z hz => by
  have h' : wr.heap[g]? = some (.cells (i64s (ro ++ List.replicate (c - ro.length) 0)).toArray 3) := h
  refine ⟨_, rfl, lt_of h', hX, ?_⟩
  rw [Addr.add_lit, Nat.zero_add, cell_of_row wr g _ _ 3 (0, 0) h', List.getElem?_toArray, i64s_at, List.getElem?_append_left (List.getElem?_eq_some_iff.1 hz).1, hz]
  rfl
/-- All that lay in v stays, but for block X. -/
structure Ag (X : Nat) (v wr : World) : Prop where
  os : wr.os = v.os
  tape : wr.tape = v.tape
  output : wr.output = v.output
  size : v.heap.size + 1 ≤ wr.heap.size
  block : ∀ q, q < v.heap.size → q ≠ X → wr.heap[q]? = v.heap[q]?
theorem Ag.only {X : Nat} {v wr W : World} (h : Ag X v wr) (ho : Only X wr W) : Ag X v W := ⟨ho.os.trans h.os, ho.tape.trans h.tape, ho.output.trans h.output, by rw [ho.size]; exact h.size, fun q hq hx => (ho.block q hx).trans (h.block q hq hx)⟩
theorem Ag.set {X i : Nat} {v wr : World} {x : Value} (h : Ag X v wr) : Ag X v (wr.setCell ⟨v.heap.size, i, none⟩ x) := ⟨h.os, h.tape, h.output, by have := h.size; simp; omega, fun q hq hx => (heap_setCell_other wr ⟨v.heap.size, i, none⟩ q _ (fun e => by have e' : q = v.heap.size := e; omega)).trans (h.block q hq hx)⟩
theorem Ag.begin {X : Nat} {v : World} {o : Obj} : Ag X v (v.alloc o) := ⟨rfl, rfl, rfl, by simp, fun _ hq _ => al_old _ _ hq⟩
/-- The state within a row. -/
def GtJ (P c n : Nat) (w v : World) (b : List Nat) (R : Rw) (T : List Int) (t : Int) (j : Nat) (bad : Bool) (wr : World) : Prop :=
  ∃ (ro : List Int) (r : List Nat), RS (P + 1) w r bad wr ∧ Kn b (itN c n R T ++ itR t ro) r bad ∧ ro.length = j ∧ (∀ x ∈ ro, -1 ≤ x) ∧ RowA v.heap.size c ro wr ∧ Ag (P + 1) v wr
end Go.Proofs.YtkmcbhdjecpmjaaDoor
/- The contract of Get (package dfa). -/
namespace Go.Proofs.YtkmcbhdjecpmjaaDoor
open Go.RowKit

theorem gti_begin {w w3 : World} {c : Nat} (h0 : w3.heap[w.heap.size]? = some (.cells #[.int .i64 0, .slice none 0 0, .slice none 0 0] 32)) (h2 : w3.heap[w.heap.size + 2]? = some (.cells #[.int .i64 (c : Int), .slice none 0 0, .slice none 0 0] 32)) (hb : Below w.heap.size w w3) : GtI w.heap.size c 0 w w3 none 0 0 none 0 [] [] [] :=
  ⟨h0, h2, World.ownsRow_nil _ _ _ _, World.ownsRow_nil _ _ _ _, fun j row hj => (by omega), fun q h => (by cases h), hb⟩
set_option maxHeartbeats 8000000 in
set_option maxRecDepth 100000 in
theorem get_any (bo : Option Addr) (bl bc : Nat) (b : List Nat) (w : World) (hb : RdU w bo b) (h8 : ∀ c ∈ b, c < 256) (hbl : bl = b.length) (hc : bl ≤ bc) (hl : bl ≤ 1000000) :
    Calls Tryd.prog 41 #[.slice bo bl bc] w fun e w' => GtQ w b e w' := by
  obtain ⟨i3, hi3, hy0, hy1, hy2⟩ := info_parts Tryd.info3
  obtain ⟨i28, hi28, hs0, hs1, hs2⟩ := info_parts Tryd.info28
  have HRS0 := hid (show RS (w.heap.size + 1) w b false ((w.alloc (.cells #[.int .i64 0, .slice none 0 0, .slice none 0 0] 32)).alloc (.cells #[.slice bo bl bc, .bool false] 117)) from ⟨bo, bl, bc, by rw [al_new _ _ (by simp)], hb, hbl, hc, hl, h8⟩)
  have HB0 := hid (show Below w.heap.size w ((w.alloc (.cells #[.int .i64 0, .slice none 0 0, .slice none 0 0] 32)).alloc (.cells #[.slice bo bl bc, .bool false] 117)) from ((Below.refl _ _).alloc (Nat.le_refl _) _).alloc (by simp) _)
  clear hb h8 hbl hc hl
  go_enter Tryd.func41, Tryd.ntmps41
  go_wp2_with fail
  obtain ⟨u, hu⟩ : ∃ u, u = (w.alloc (.cells #[.int .i64 0, .slice none 0 0, .slice none 0 0] 32)).alloc (.cells #[.slice bo bl bc, .bool false] 117) := ⟨_, rfl⟩
  have HU0 := hid (show u.heap[w.heap.size]? = some (.cells #[.int .i64 0, .slice none 0 0, .slice none 0 0] 32) by rw [hu, al_old _ _ (by simp), al_new _ _ rfl])
  have HUS := hid (show u.heap.size = w.heap.size + 2 by rw [hu]; simp)
  rw [← hu] at HRS0 HB0
  rw [← hu]
  clear hu
  refine (num_step (most := 64) HRS0.out HB0.out (by omega)).mono ?_
  rintro e w1 ⟨c, r1, bad1, rfl, hc64, hRS1, ho1, hq1⟩
  have HK1 := hid (Kn.begin.c hq1)
  have HRS1 := hid hRS1
  have HO1 := hid ho1
  have hs1' : w1.heap.size = w.heap.size + 2 := ho1.size.trans HUS.out
  clear hRS1 ho1 hq1
  go_wp2_with fail
  obtain ⟨w2, hw2⟩ : ∃ w2, w2 = w1.alloc (.cells #[.int .i64 (c : Int), .slice none 0 0, .slice none 0 0] 32) := ⟨_, rfl⟩
  rw [← hw2]
  try rw [hs1']
  have HRS2 := hid (show RS (w.heap.size + 1) w r1 bad1 w2 from HRS1.out.keep (by rw [hw2, al_old _ _ HRS1.out.lt]))
  have HB1 := hid (show Below w.heap.size w w1 from HB0.out.trans ⟨HO1.out.os, HO1.out.tape, HO1.out.output, Nat.le_of_eq HO1.out.size.symm, fun q hq => HO1.out.block q (by omega)⟩)
  have HB2 := hid (show Below w.heap.size w w2 by rw [hw2]; exact HB1.out.alloc HB1.out.size _)
  have HW0 := hid (show w2.heap[w.heap.size]? = some (.cells #[.int .i64 0, .slice none 0 0, .slice none 0 0] 32) by rw [hw2, al_old _ _ (by omega), HO1.out.block _ (by omega)]; exact HU0.out)
  have HW2 := hid (show w2.heap[w.heap.size + 2]? = some (.cells #[.int .i64 (c : Int), .slice none 0 0, .slice none 0 0] 32) by rw [hw2, al_new _ _ hs1'.symm])
  clear hw2 hs1'
  refine (num_step (most := 1024) HRS2.out HB2.out (by omega)).mono ?_
  rintro e w3 ⟨n, r3, bad3, rfl, hn, hRS3, ho3, hq3⟩
  have HH3 := hid (show GtH w.heap.size c n w b 0 bad3 w3 from ⟨none, 0, none, 0, [], [], [], r3, (gti_begin HW0.out HW2.out HB2.out).only rfl ho3, hRS3, HK1.out.n hq3, Shp.nil c, rfl⟩)
  clear hRS3 ho3 hq3 HRS0 HB0 HU0 HUS HK1 HRS1 HO1 HRS2 HB1 HB2 HW0 HW2
  go_wp2
  go_loopw [18] (fun y wr => ∃ (k : Nat) (bad : Bool), y = .int .i64 k ∧ k ≤ n ∧ Hid (GtH w.heap.size c n w b k bad wr)) (fun y _ => n - (intOf y).toNat)
  case atStart => exact ⟨0, bad3, rfl, Nat.zero_le _, HH3⟩
  case round =>
    obtain ⟨k, bad, rfl, hk, HH⟩ := hrel
    by_cases hlt : k < n
    · have i3' : (k : Int) < (n : Int) := by omega
      obtain ⟨no, nc, to, tc, R, T, V, r, hG, hR, hK, hS, hRl⟩ := HH.out
      have d0 : wr.cell? ⟨w.heap.size + 2, 0, none⟩ = some (.int .i64 (c : Int)) := by rw [cell_of_row wr _ 0 _ 32 (0, 0) hG.dfa]; rfl
      have d2 : wr.cell? ⟨w.heap.size + 2, 2, none⟩ = some (.slice to k tc) := by rw [cell_of_row wr _ 2 _ 32 (0, 0) hG.dfa]; rfl
      have HG := hid hG
      have HR := hid hR
      have HK := hid hK
      have HS := hid hS
      have HRl := hid hRl
      clear hG hR hK hS hRl HH
      go_wp2_with fail
      refine wp_region_mix [(0, true), (1, true), (2, true), (3, false), (4, false), (5, false), (6, true), (7, false)] (fun w' => w'.cell? ⟨w.heap.size + 2, 2, none⟩ = some (.slice to k tc)) (fun j => j == 7) (by kernel_rfl) (by kernel_rfl) (fun j hj => by have := beq_iff_eq.1 hj; subst this; decide) rfl (by kernel_rfl) d2 ?_
      iterate 3 (refine mix_free ?_ rfl (by kernel_rfl) (fun w' hS => ?_) ?_; (rotate_left; (go_simp; with_reducible rfl); rotate_left))
      obtain ⟨wd, hwd⟩ : ∃ wd, wd = wr.drew := ⟨_, rfl⟩
      have HGd := hid (show GtI w.heap.size c k w wd no nc k to tc R T V by rw [hwd]; exact HG.out.keep rfl (fun _ _ _ => rfl) (Nat.le_refl _) ⟨rfl, rfl, rfl⟩)
      have HRd := hid (show RS (w.heap.size + 1) w r bad wd by rw [hwd]; exact HR.out.keep rfl)
      rw [← hwd]
      clear hwd HG HR d0 d2
      refine mix_go rfl (by kernel_rfl) fun KK hKK => ?_
      go_simp
      refine (num_step (most := 1) HRd.out HGd.out.bel (by omega)).mono ?_
      rintro e w4 ⟨t, r4, bad4, rfl, ht1, hR4, ho4, hq4⟩
      have HG4 := hid (HGd.out.only rfl ho4)
      have HR4 := hid hR4
      have HK4 := hid (HK.out.t HS.out (by have := HRl.out; omega) hq4)
      have d4 : w4.cell? ⟨w.heap.size + 2, 2, none⟩ = some (.slice to k tc) := by rw [cell_of_row w4 _ 2 _ 32 (0, 0) HG4.out.dfa]; rfl
      refine hKK _ _ (fun _ => d4) ?_
      clear hKK KK hR4 ho4 hq4 HGd HRd HK
      refine mix_go rfl (by kernel_rfl) fun KK hKK => ?_
      go_simp
      refine hKK _ _ (fun _ => cell_al d4) ?_
      clear hKK KK
      have hP4 : w.heap.size + 3 ≤ w4.heap.size := lt_of HG4.out.dfa
      refine mix_go rfl (by kernel_rfl) fun KK hKK => ?_
      refine wp_append_lies _ _ _ 28 rfl (w.heap.size + 3) 3 i3 (.int .i64 0) 1 8 Tryd.underlying28 hi3 hy0 hy1 hy2 rfl (by decide) (.slice to k tc) k (i64s T) rfl (HG4.out.tk.alloc _) ⟨w4.heap.size, 0, none⟩ 1 1 [.int .i64 (t : Int)] rfl rfl (news_one w4 _ 3) (i64s_one [(t : Int)]) (by decide) (by unfold maxLen; omega) (by omega) (by simp; omega) (w4.alloc (.cells #[.int .i64 (t : Int)] 3)).heap.size rfl ?_
      intro g8 c8 w8 o8 gr8 hl8 hlt8
      have hs8 : w4.heap.size + 1 ≤ w8.heap.size := by
        have h : (w4.alloc (.cells #[.int .i64 (t : Int)] 3)).heap.size ≤ w8.heap.size := gr8.size
        simpa using h
      have hblk8 : ∀ q, q < w4.heap.size → (Value.slice to k tc).ownBlock ≠ some q → w8.heap[q]? = w4.heap[q]? := fun q hq hne => (gr8.block q (by show q < (w4.alloc _).heap.size; simp; omega) (fun e => hne e.symm)).trans (al_old _ _ hq)
      have hlow : ∀ q, q < w.heap.size + 3 → (Value.slice to k tc).ownBlock ≠ some q := fun q hq e => by have := (HG4.out.tk.lt q e).1; omega
      have HG9 := hid (HG4.out.take rfl o8 hblk8 (hl8.elim .inl (fun h => .inr (by have h' : g8 = (w4.alloc (.cells #[.int .i64 (t : Int)] 3)).heap.size := h; simp at h'; omega))) (by omega) ⟨gr8.os, gr8.tape, gr8.output⟩)
      have hd8 : w8.heap[w.heap.size + 2]? = some (.cells #[.int .i64 (c : Int), .slice no k nc, .slice to k tc] 32) := (hblk8 _ (by omega) (hlow _ (by omega))).trans HG4.out.dfa
      have d8 : w8.cell? ⟨w.heap.size + 2, 2, none⟩ = some (.slice to k tc) := by rw [cell_of_row w8 _ 2 _ 32 (0, 0) hd8]; rfl
      have fz := frozen_of_row w8 (w.heap.size + 2) 2 _ 32 hd8
      have HR9 := hid (show RS (w.heap.size + 1) w r4 bad4 (w8.setCell ⟨w.heap.size + 2, 2, none⟩ (.slice (some ⟨g8, 0, none⟩) (k + 1) c8)) from HR4.out.keep ((heap_setCell_other w8 ⟨w.heap.size + 2, 2, none⟩ (w.heap.size + 1) _ (fun e => by have e' : w.heap.size + 1 = w.heap.size + 2 := e; omega)).trans (hblk8 _ (by omega) (hlow _ (by omega)))))
      refine hKK _ _ (fun _ => d8) ?_
      clear hKK KK o8 gr8 hl8 hlt8 hblk8 hlow hs8 hd8 d4 HG4 HR4
      refine mix_free ?_ rfl (by kernel_rfl) (fun w' hS => ?_) ?_; (rotate_left; (go_simp; with_reducible rfl); rotate_left)
      refine mix_go rfl (by kernel_rfl) fun KK hKK => ?_
      go_simp
      refine hKK _ _ (fun h => by cases h) ?_
      clear hKK KK
      refine mix_end (NoPanic.normal ?_)
      obtain ⟨w9, hw9⟩ : ∃ w9, w9 = w8.setCell ⟨w.heap.size + 2, 2, none⟩ (.slice (some ⟨g8, 0, none⟩) (k + 1) c8) := ⟨_, rfl⟩
      rw [← hw9] at HG9 HR9
      rw [← hw9]
      clear hw9 d8 fz hP4
      have e0 : w9.cell? ⟨w.heap.size + 2, 0, none⟩ = some (.int .i64 (c : Int)) := by rw [cell_of_row w9 _ 0 _ 32 (0, 0) HG9.out.dfa]; rfl
      have mk := mkS Tryd.underlying28 hi3 hy0 hy1 hy2 (by decide) c (by omega) w9
      have HLO := hid (show ∀ q, (Value.slice no k nc).ownBlock = some q ∨ (Value.slice (some ⟨g8, 0, none⟩) (k + 1) c8).ownBlock = some q → q < w9.heap.size from fun q hq => hq.elim (fun h => (HG9.out.nx.lt q h).2) (fun h => (HG9.out.tk.lt q h).2))
      have HJ0 := hid (show GtJ w.heap.size c n w w9 b R T (t : Int) 0 bad4 (w9.alloc (.cells (madeCells (Value.int .i64 0).cells c) 3)) from ⟨[], r4, HR9.out.keep (al_old _ _ HR9.out.lt), HK4.out, rfl, fun _ h => (by cases h), RowA.begin, Ag.begin⟩)
      have hP9 : w.heap.size + 3 ≤ w9.heap.size := lt_of HG9.out.dfa
      obtain ⟨gR, hgR⟩ : ∃ gR, gR = w9.heap.size := ⟨_, rfl⟩
      have HGR := hid hgR
      go_wp2
      clear mk e0 HR9 HK4
      rw [← hgR]
      clear hgR
      go_loopw [32] (fun y wr => ∃ (j : Nat) (bad : Bool), y = .int .i64 j ∧ j ≤ c ∧ Hid (GtJ w.heap.size c n w w9 b R T (t : Int) j bad wr)) (fun y _ => c - (intOf y).toNat)
      case atStart => exact ⟨0, bad4, rfl, Nat.zero_le _, HJ0⟩
      case round =>
        clear HJ0
        obtain ⟨j, bad, rfl, hj, HJ⟩ := hrel
        obtain ⟨ro, r, hR, hK, hro, hx, hA, hAg⟩ := HJ.out
        have HGW := hid (show ∀ W, Ag (w.heap.size + 1) w9 W → GtI w.heap.size c k w W no nc (k + 1) (some ⟨g8, 0, none⟩) c8 R (T ++ [(t : Int)]) V from fun W h => HG9.out.keep rfl (fun q hq hx => h.block q hq hx) (by have := h.size; omega) ⟨h.os, h.tape, h.output⟩)
        have HRX := hid hR
        have HKX := hid hK
        have HROL := hid hro
        have HROX := hid hx
        have HA := hid hA
        have HAG := hid hAg
        clear hR hK hro hx hA hAg HJ
        by_cases hjl : j < c
        · have i5 : (j : Int) < (c : Int) := by omega
          have i6 : (0 : Int) ≤ (j : Int) := by omega
          go_wp2_with fail
          refine (num_step (most := n) HRX.out (HGW.out _ HAG.out).bel (by omega)).mono ?_
          rintro e w11 ⟨y, r11, bad11, rfl, hy11, hR11, ho11, hq11⟩
          have HAG11 := hid (HAG.out.only ho11)
          have HA11 := hid (show RowA w9.heap.size c ro w11 from (ho11.block w9.heap.size (by omega)).trans HA.out)
          have HK11 := hid (HKX.out.x HS.out (by have := HRl.out; omega) (by have := HROL.out; omega) hq11)
          obtain ⟨a1, a2⟩ := HA11.out.cell (by have := HROL.out; omega)
          rw [HROL.out, ← HGR.out] at a1 a2
          have ey : IntKind.i64.wrap ((y : Int) - 1) = (y : Int) - 1 := by rw [IntKind.wrap_i64]; omega
          have HJ12 := hid (show GtJ w.heap.size c n w w9 b R T (t : Int) (j + 1) bad11 (w11.setCell ⟨gR, j, none⟩ (.int .i64 ((y : Int) - 1))) from ⟨ro ++ [(y : Int) - 1], r11, hR11.keep (heap_setCell_other w11 ⟨gR, j, none⟩ (w.heap.size + 1) _ (fun e => by have e' : w.heap.size + 1 = gR := e; have := HGR.out; omega)), HK11.out, by rw [List.length_append, HROL.out]; rfl, fun x hx => by
            rcases List.mem_append.1 hx with h | h
            · exact HROX.out x h
            · rw [List.mem_singleton.1 h]; omega, by rw [HGR.out, ← HROL.out]; exact HA11.out.set (by have := HROL.out; omega) _, by rw [HGR.out]; exact HAG11.out.set⟩)
          clear hR11 ho11 hq11 HRX HKX HA HAG HAG11 HA11 HK11
          go_wp2
          go_roundw
          case rel => exact ⟨j + 1, bad11, by go_num, by omega, HJ12⟩
          case measure => simp [intOf]; omega
        · have i5 : ¬ (j : Int) < (c : Int) := by omega
          have HGN := hid (HGW.out _ HAG.out)
          have HRC := hid (show ro.length = c by have := HROL.out; omega)
          have f1 : wr.cell? ⟨w.heap.size + 2, 1, none⟩ = some (.slice no k nc) := by rw [cell_of_row wr _ 1 _ 32 (0, 0) HGN.out.dfa]; rfl
          have hPr : w.heap.size + 3 ≤ wr.heap.size := lt_of HGN.out.dfa
          have HLW := hid (show ∀ q, q < w.heap.size + 3 → (Value.slice no k nc).ownBlock ≠ some q from fun q hq e => by have := (HGN.out.nx.lt q e).1; omega)
          have HBK := hid (show ∀ w5 : World, (∀ q, q < wr.heap.size → (Value.slice no k nc).ownBlock ≠ some q → w5.heap[q]? = wr.heap[q]?) → ((w5.cell? ⟨w.heap.size + 2, 1, none⟩ = some (.slice no k nc) ∧ w5.frozen? ⟨w.heap.size + 2, 1, none⟩ = false) ∧ w5.cell? ⟨w.heap.size + 1, 1, none⟩ = some (.bool bad)) ∧ (w5.cell? ⟨w.heap.size, 0, none⟩ = some (.int .i64 0) ∧ w5.cell? ⟨w.heap.size, 1, none⟩ = some (.slice none 0 0) ∧ w5.cell? ⟨w.heap.size, 2, none⟩ = some (.slice none 0 0)) ∧ w5.frozen? ⟨w.heap.size, 0, none⟩ = false ∧ w5.frozen? ⟨w.heap.size, 1, none⟩ = false ∧ w5.frozen? ⟨w.heap.size, 2, none⟩ = false from fun w5 hq => by
            have h2 := (hq (w.heap.size + 2) (by omega) (HLW.out _ (by omega))).trans HGN.out.dfa
            have h0 := (hq w.heap.size (by omega) (HLW.out _ (by omega))).trans HGN.out.res
            obtain ⟨so, sl, sc, h1, _⟩ := HRX.out
            have h1 := (hq (w.heap.size + 1) (by omega) (HLW.out _ (by omega))).trans h1
            exact ⟨⟨⟨by rw [cell_of_row w5 _ 1 _ 32 (0, 0) h2]; rfl, frozen_of_row w5 _ 1 _ 32 h2⟩, by rw [cell_of_row w5 _ 1 _ 117 (0, 0) h1]; rfl⟩, ⟨by rw [cell_of_row w5 _ 0 _ 32 (0, 0) h0]; rfl, by rw [cell_of_row w5 _ 1 _ 32 (0, 0) h0]; rfl, by rw [cell_of_row w5 _ 2 _ 32 (0, 0) h0]; rfl⟩, frozen_of_row w5 _ 0 _ 32 h0, frozen_of_row w5 _ 1 _ 32 h0, frozen_of_row w5 _ 2 _ 32 h0⟩)
          have HNX := hid (show ∀ (g5 c5 : Nat) (w5 : World), w5.ownsRow (w.heap.size + 3) 28 1 (.slice (some ⟨g5, 0, none⟩) (k + 1) c5) (k + 1) (V ++ [.slice (some ⟨gR, 0, none⟩) c c]) → (wr.alloc (.cells #[.slice (some ⟨gR, 0, none⟩) c c] 28)).grownBy w5 (Value.slice no k nc).ownBlock → ((Value.slice no k nc).ownBlock = some g5 ∨ g5 = wr.heap.size + 1) → GtH w.heap.size c n w b (k + 1) bad (w5.setCell ⟨w.heap.size + 2, 1, none⟩ (.slice (some ⟨g5, 0, none⟩) (k + 1) c5)) from fun g5 c5 w5 o5 gr5 hl5 => by
            have hq : ∀ q, q < wr.heap.size → (Value.slice no k nc).ownBlock ≠ some q → w5.heap[q]? = wr.heap[q]? := fun q hq hne => (gr5.block q (by simp; omega) (fun e => hne e.symm)).trans (al_old _ _ hq)
            have hsz : wr.heap.size + 1 ≤ w5.heap.size := by have h := gr5.size; simpa using h
            have o5' : w5.ownsRow (w.heap.size + 3) 28 1 (.slice (some ⟨g5, 0, none⟩) (k + 1) c5) (k + 1) (V ++ [.slice (some ⟨gR, 0, none⟩) ro.length c]) := by rw [HRC.out]; exact o5
            have hrd : RdIx wr (fun q => q < w.heap.size + 3 ∨ (Value.slice no k nc).ownBlock = some q ∨ (Value.slice (some ⟨g8, 0, none⟩) (k + 1) c8).ownBlock = some q) (some ⟨gR, 0, none⟩) ro := by
              rw [HGR.out]
              refine HA.out.reads ?_
              rintro (h | h | h)
              · omega
              · have := HLO.out _ (.inl h); omega
              · have := HLO.out _ (.inr h); omega
            exact ⟨_, c5, _, _, _, _, _, r, HGN.out.row rfl HRl.out o5' hq (hl5.elim .inl (fun h => .inr (by omega))) (by omega) ⟨gr5.os, gr5.tape, gr5.output⟩ hrd, HRX.out.keep ((heap_setCell_other w5 ⟨w.heap.size + 2, 1, none⟩ (w.heap.size + 1) _ (fun e => by have e' : w.heap.size + 1 = w.heap.size + 2 := e; omega)).trans (hq _ (by omega) (HLW.out _ (by omega)))), HKX.out.row HS.out, HS.out.add HRC.out HROX.out (by omega), by rw [List.length_append, HRl.out]; rfl⟩)
          have HNXR := hid HGN.out.nx
          clear HGW HRX HKX HROL HROX HA HAG HG9 HLO HRC HS HRl
          rcases bool_cases bad with rfl | rfl
          · go_wp2_with (at_builtin; go_loud (refine wpList_append_lies _ rfl _ _ 30 rfl (w.heap.size + 3) 28 i28 (.slice none 0 0) 1 24 Tryd.underlying30 hi28 hs0 hs1 hs2 rfl (by decide) (.slice no k nc) k V rfl (HNXR.out.alloc _) ⟨wr.heap.size, 0, none⟩ 1 1 [.slice (some ⟨gR, 0, none⟩) c c] rfl rfl (news_one wr _ 28) (fun u hu => by simp at hu; rw [hu]; rfl) (by decide) (by unfold maxLen; omega) (by omega) (by simp; omega) (wr.heap.size + 1) (by simp) ?_); intro g5 c5 w5 o5 gr5 hl5 hlt5; obtain ⟨⟨⟨f5, z5⟩, x5⟩, ⟨r0, r1, r2⟩, z0, z1, z2⟩ := HBK.out w5 (fun q hq1 hq2 => (gr5.block q (by simp; omega) (fun e => hq2 e.symm)).trans (al_old _ _ hq1)); have HF := hid (HNX.out g5 c5 w5 o5 gr5 hl5); clear o5 gr5 hl5 hlt5)
            go_wp2
            (try simp only [Exit.inBlock, Exit.then])
            obtain ⟨_, _, _, _, _, _, _, _, hI, _, hK, _⟩ := HF.out
            have HND := hid (show NoD b by rcases hK with ⟨_, h⟩ | ⟨h, _⟩; (· exact h); (· cases h))
            refine bodyPost_ret (results_row_tmp rfl _ _ w.heap.size 32 #[.int .i64 0, .slice none 0 0, .slice none 0 0] (0, 0) _ rfl (st3_at (v0 := .int .i64 0) (v1 := .slice none 0 0) (v2 := .slice none 0 0) hI.res) Tryd.underlying32 rfl (by kernel_rfl)) rfl ?_
            exact .inr ⟨HND.out, rfl, st3_below hI.bel (Nat.le_refl _)⟩
          · go_wp2_with (at_builtin; go_loud (refine wpList_append_lies _ rfl _ _ 30 rfl (w.heap.size + 3) 28 i28 (.slice none 0 0) 1 24 Tryd.underlying30 hi28 hs0 hs1 hs2 rfl (by decide) (.slice no k nc) k V rfl (HNXR.out.alloc _) ⟨wr.heap.size, 0, none⟩ 1 1 [.slice (some ⟨gR, 0, none⟩) c c] rfl rfl (news_one wr _ 28) (fun u hu => by simp at hu; rw [hu]; rfl) (by decide) (by unfold maxLen; omega) (by omega) (by simp; omega) (wr.heap.size + 1) (by simp) ?_); intro g5 c5 w5 o5 gr5 hl5 hlt5; obtain ⟨⟨⟨f5, z5⟩, x5⟩, ⟨r0, r1, r2⟩, z0, z1, z2⟩ := HBK.out w5 (fun q hq1 hq2 => (gr5.block q (by simp; omega) (fun e => hq2 e.symm)).trans (al_old _ _ hq1)); have HF := hid (HNX.out g5 c5 w5 o5 gr5 hl5); clear o5 gr5 hl5 hlt5)
            go_wp2
            go_roundw
            case rel => exact ⟨k + 1, false, by go_num, by omega, HF⟩
            case measure => simp [intOf]; omega
    · have i3' : ¬ (k : Int) < (n : Int) := by omega
      have hkn : k = n := by omega
      subst hkn
      obtain ⟨no, nc, to, tc, R, T, V, r, hG, ⟨so, sl, sc, hx, _, hsl, _⟩, hK, hS, hRl⟩ := HH.out
      have HRES := hid hG.res
      have HBEL := hid hG.bel
      have r0 : wr.cell? ⟨w.heap.size, 0, none⟩ = some (.int .i64 0) := by rw [cell_of_row wr _ 0 _ 32 (0, 0) HRES.out]; rfl
      have r1 : wr.cell? ⟨w.heap.size, 1, none⟩ = some (.slice none 0 0) := by rw [cell_of_row wr _ 1 _ 32 (0, 0) HRES.out]; rfl
      have r2 : wr.cell? ⟨w.heap.size, 2, none⟩ = some (.slice none 0 0) := by rw [cell_of_row wr _ 2 _ 32 (0, 0) HRES.out]; rfl
      have z0 := frozen_of_row wr w.heap.size 0 _ 32 HRES.out
      have z1 := frozen_of_row wr w.heap.size 1 _ 32 HRES.out
      have z2 := frozen_of_row wr w.heap.size 2 _ 32 HRES.out
      have x0 : wr.cell? ⟨w.heap.size + 1, 0, none⟩ = some (.slice so sl sc) := by rw [cell_of_row wr _ 0 _ 117 (0, 0) hx]; rfl
      have x1 : wr.cell? ⟨w.heap.size + 1, 1, none⟩ = some (.bool bad) := by rw [cell_of_row wr _ 1 _ 117 (0, 0) hx]; rfl
      have HG := hid hG
      have HK := hid hK
      have HS := hid hS
      have HRl := hid hRl
      have HSL := hid hsl
      clear hG hx hK hS hRl HH hsl
      rcases bool_cases bad with rfl | rfl
      · have HND := hid (HK.out.no HS.out (fun h => by cases h) (.inl rfl))
        go_wp2
        (try simp only [Exit.inBlock, Exit.then])
        refine bodyPost_ret (results_row_tmp rfl _ _ w.heap.size 32 #[.int .i64 0, .slice none 0 0, .slice none 0 0] (0, 0) _ rfl (st3_at (v0 := .int .i64 0) (v1 := .slice none 0 0) (v2 := .slice none 0 0) HRES.out) Tryd.underlying32 rfl (by kernel_rfl)) rfl ?_
        exact .inr ⟨HND.out, rfl, st3_below HBEL.out (Nat.le_refl _)⟩
      by_cases hr0 : 0 < sl
      · have i9 : (0 : Int) < (sl : Int) := by omega
        have HND := hid (HK.out.no HS.out (fun _ => HRl.out) (.inr (.inl (fun h => by have := HSL.out; rw [h] at this; simp at this; omega))))
        go_wp2
        (try simp only [Exit.inBlock, Exit.then])
        refine bodyPost_ret (results_row_tmp rfl _ _ w.heap.size 32 #[.int .i64 0, .slice none 0 0, .slice none 0 0] (0, 0) _ rfl (st3_at (v0 := .int .i64 0) (v1 := .slice none 0 0) (v2 := .slice none 0 0) HRES.out) Tryd.underlying32 rfl (by kernel_rfl)) rfl ?_
        exact .inr ⟨HND.out, rfl, st3_below HBEL.out (Nat.le_refl _)⟩
      · have i9 : ¬ (0 : Int) < (sl : Int) := by omega
        have HRN := hid (show r = [] from List.eq_nil_of_length_eq_zero (by have := HSL.out; omega))
        have d0 : wr.cell? ⟨w.heap.size + 2, 0, none⟩ = some (.int .i64 (c : Int)) := by rw [cell_of_row wr _ 0 _ 32 (0, 0) HG.out.dfa]; rfl
        have d1 : wr.cell? ⟨w.heap.size + 2, 1, none⟩ = some (.slice no k nc) := by rw [cell_of_row wr _ 1 _ 32 (0, 0) HG.out.dfa]; rfl
        have d2 : wr.cell? ⟨w.heap.size + 2, 2, none⟩ = some (.slice to k tc) := by rw [cell_of_row wr _ 2 _ 32 (0, 0) HG.out.dfa]; rfl
        have HDR := hid (HG.out.reads HRl.out.symm (by have h1 := HS.out.len; have h2 := HRl.out; omega) (by omega) (by omega) (fun row hr => by have := (HS.out.row row hr).1; unfold most; omega))
        go_wp2_with fail
        refine (good_any (c : Int) no to k nc k tc R T wr HDR.out).mono ?_
        rintro e w20 ⟨rfl, be⟩
        have HRES2 := hid ((be.block _ (lt_of HRES.out)).trans HRES.out)
        have HBE := hid be
        have HBEL2 := hid (HBEL.out.trans (be.mono HBEL.out.size))
        have d0 := cell_bl be d0
        have d1 := cell_bl be d1
        have d2 := cell_bl be d2
        have hlw : w.heap.size < w20.heap.size := lt_of HRES2.out
        clear r0 r1 r2 z0 z1 z2 x0 x1 HRES HBEL be
        have HRES := HRES2
        have HBEL := HBEL2
        have r0 : w20.cell? ⟨w.heap.size, 0, none⟩ = some (.int .i64 0) := by rw [cell_of_row w20 _ 0 _ 32 (0, 0) HRES.out]; rfl
        have r1 : w20.cell? ⟨w.heap.size, 1, none⟩ = some (.slice none 0 0) := by rw [cell_of_row w20 _ 1 _ 32 (0, 0) HRES.out]; rfl
        have r2 : w20.cell? ⟨w.heap.size, 2, none⟩ = some (.slice none 0 0) := by rw [cell_of_row w20 _ 2 _ 32 (0, 0) HRES.out]; rfl
        have z0 := frozen_of_row w20 w.heap.size 0 _ 32 HRES.out
        have z1 := frozen_of_row w20 w.heap.size 1 _ 32 HRES.out
        have z2 := frozen_of_row w20 w.heap.size 2 _ 32 HRES.out
        rcases bool_cases (gdB (c : Int) R T) with hg | hg
        · have HGD := hid (gd_of hg)
          rw [hg]
          clear hg
          have HEN := hid (show encD (c : Int) R T = b from Kn.good (by rw [← HRN.out]; exact HK.out) HRl.out HGD.out)
          go_wp2
          (try simp only [Exit.inBlock, Exit.then])
          refine bodyPost_ret (results_row_tmp rfl _ _ w.heap.size 32 #[.int .i64 (c : Int), .slice no k nc, .slice to k tc] (0, 0) _ rfl (st3_at (v0 := .int .i64 (c : Int)) (v1 := .slice no k nc) (v2 := .slice to k tc) HRES.out) Tryd.underlying32 rfl (by kernel_rfl)) rfl ?_
          have HTL := hid (show k = T.length by have h1 := HS.out.len; have h2 := HRl.out; omega)
          refine .inl ⟨(c : Int), R, T, no, to, nc, tc, HGD.out, HEN.out, ?_, ?_, st3_below HBEL.out (Nat.le_refl _)⟩
          · rw [HRl.out, ← HTL.out]; rfl
          · have h := HG.out.reads2 (W' := st3 w20 w.heap.size (.int .i64 (c : Int)) (.slice no k nc) (.slice to k tc)) (fun q hq hp => (st3_other (by omega)).trans (HBE.out.block q hq)) (by rw [st3_size]; exact HBE.out.size) HRl.out.symm HTL.out (by omega) (by omega) (fun row hr => by have := (HS.out.row row hr).1; unfold most; omega)
            rw [HRl.out, ← HTL.out]
            exact h
        · have HND := hid (HK.out.no HS.out (fun _ => HRl.out) (.inr (.inr (not_gd hg))))
          rw [hg]
          clear hg
          go_wp2
          (try simp only [Exit.inBlock, Exit.then])
          refine bodyPost_ret (results_row_tmp rfl _ _ w.heap.size 32 #[.int .i64 0, .slice none 0 0, .slice none 0 0] (0, 0) _ rfl (st3_at (v0 := .int .i64 0) (v1 := .slice none 0 0) (v2 := .slice none 0 0) HRES.out) Tryd.underlying32 rfl (by kernel_rfl)) rfl ?_
          exact .inr ⟨HND.out, rfl, st3_below HBEL.out (Nat.le_refl _)⟩
end Go.Proofs.YtkmcbhdjecpmjaaDoor
/- What the document's Get knows. -/
namespace Go.Proofs.YtkmcbhdjecpmjaaDoor
open Go.RowKit

theorem NoN.mono {m n : Nat} {b : List Nat} (h : NoN n b) (hm : m ≤ n) : NoN m b := fun k r hk => h k r (by omega)
theorem noD_range {b r : List Nat} {c n : Nat} (hb : b = encL (itN c n [] []) ++ r) (h : c < 1 ∨ 64 < c ∨ n < 1 ∨ 1024 < n) : NoD b := fun c' R T g e => by
  obtain ⟨e1, e2, _⟩ := read_head hb g e
  have h1 := g.c1
  have h2 := g.c2
  have h3 := g.n1
  have h4 := g.n2
  omega
/-- All that lay in v stays, but for block X. -/
structure Ah (X : Nat) (v wr : World) : Prop where
  os : wr.os = v.os
  tape : wr.tape = v.tape
  output : wr.output = v.output
  size : v.heap.size ≤ wr.heap.size
  block : ∀ q, q < v.heap.size → q ≠ X → wr.heap[q]? = v.heap[q]?
theorem Ah.refl (X : Nat) (v : World) : Ah X v v := ⟨rfl, rfl, rfl, Nat.le_refl _, fun _ _ _ => rfl⟩
theorem Ah.only {X : Nat} {v wr W : World} (h : Ah X v wr) (ho : Only X wr W) : Ah X v W := ⟨ho.os.trans h.os, ho.tape.trans h.tape, ho.output.trans h.output, by rw [ho.size]; exact h.size, fun q hq hx => (ho.block q hx).trans (h.block q hq hx)⟩
theorem Ah.grown {X : Nat} {v wr W : World} {o : Obj} {ob : Option Nat} (h : Ah X v wr) (hg : (wr.alloc o).grownBy W ob) (ho : ∀ q, ob = some q → v.heap.size ≤ q) : Ah X v W := by
  have h1 := hg.size
  have h2 := h.size
  simp at h1
  refine ⟨hg.os.trans h.os, hg.tape.trans h.tape, hg.output.trans h.output, by omega, fun q hq hx => ?_⟩
  rw [hg.block q (by simp; omega) (fun e => by have := ho q e.symm; omega), al_old _ _ (by omega)]
  exact h.block q hq hx
/-- What is known of the bytes, at place p, ns being read. -/
def Ke (b ns : List Nat) (p : Nat) (ok : Bool) : Prop := (ok = false ∧ NoD b) ∨ (ok = true ∧ b = encL ns ++ b.drop p)
theorem Ke.step {b ns : List Nat} {p q n : Nat} {ok : Bool} (h : b = encL ns ++ b.drop p) (hf : NoN 16383 (b.drop p) → NoD b) (ho : (ok = true ∧ b.drop p = vn n ++ b.drop q) ∨ (ok = false ∧ NoN 16383 (b.drop p))) : Ke b (ns ++ [n]) q ok := by
  rcases ho with ⟨rfl, hr⟩ | ⟨rfl, hn⟩
  · exact .inr ⟨rfl, by rw [encL_snoc, List.append_assoc, ← hr]; exact h⟩
  · exact .inl ⟨rfl, hf hn⟩
/-- The state at the head of a round. -/
def GtE (P c n : Nat) (w : World) (b : List Nat) (k : Nat) (ok : Bool) (wr : World) : Prop :=
  ∃ (no : Option Addr) (nc : Nat) (to : Option Addr) (tc : Nat) (R : Rw) (T : List Int) (V : List Value) (p : Nat), GtI P c k w wr no nc k to tc R T V ∧ RD (P + 1) w b p ok wr ∧ R.length = k ∧ ((ok = false ∧ NoD b) ∨ (ok = true ∧ b = encL (itN c n R T) ++ b.drop p ∧ Shp c R T))
/-- The state within a row: what is read of it lies in a row of its own. -/
def GtF (P c n : Nat) (w v : World) (b : List Nat) (R : Rw) (T : List Int) (t : Int) (j : Nat) (ok : Bool) (vo : Option Addr) (vc : Nat) (wr : World) : Prop :=
  ∃ (ro : List Int) (p : Nat), RD (P + 1) w b p ok wr ∧ Ke b (itN c n R T ++ itR t ro) p ok ∧ ro.length = j ∧ (∀ x ∈ ro, -1 ≤ x) ∧ wr.ownsRow v.heap.size 3 1 (.slice vo j vc) j (i64s ro) ∧ Ah (P + 1) v wr
theorem own_reads {B m vc : Nat} {w : World} {vo : Option Addr} {l : List Int} {X : Nat → Prop} (h : w.ownsRow B 3 1 (.slice vo m vc) m (i64s l)) (hX : ∀ q, B ≤ q → q < w.heap.size → (Value.slice vo m vc).ownBlock = some q → ¬ X q) : RdIx w X vo l := fun k z hk => by
  obtain ⟨g, e, hB, hg, hc⟩ := own_at h hk
  exact ⟨_, e, hg, hX g hB hg (by rw [e]; rfl), by rw [Addr.add_lit, Nat.zero_add]; exact hc⟩
end Go.Proofs.YtkmcbhdjecpmjaaDoor
/- The contract of Get (the document's). -/
namespace Go.Proofs.YtkmcbhdjecpmjaaDoor
open Go.RowKit

set_option maxHeartbeats 8000000 in
set_option maxRecDepth 100000 in
theorem rget_any (bo : Option Addr) (bl bc : Nat) (b : List Nat) (w : World) (hb : RdU w bo b) (h8 : ∀ c ∈ b, c < 256) (hbl : bl = b.length) (hl : bl ≤ 1000000) :
    Calls Tryd.prog 42 #[.slice bo bl bc] w fun e w' => GtQ w b e w' := by
  obtain ⟨i3, hi3, hy0, hy1, hy2⟩ := info_parts Tryd.info3
  obtain ⟨i28, hi28, hs0, hs1, hs2⟩ := info_parts Tryd.info28
  have HRS0 := hid (show RD (w.heap.size + 1) w b 0 true ((w.alloc (.cells #[.int .i64 0, .slice none 0 0, .slice none 0 0] 32)).alloc (.cells #[.slice bo bl bc, .int .i64 0, .bool true] 121)) from ⟨bo, bl, bc, by unfold Rdr; rw [al_new _ _ (by simp)]; rfl, hb, hbl, Nat.zero_le _, hl, h8⟩)
  have HB0 := hid (show Below w.heap.size w ((w.alloc (.cells #[.int .i64 0, .slice none 0 0, .slice none 0 0] 32)).alloc (.cells #[.slice bo bl bc, .int .i64 0, .bool true] 121)) from ((Below.refl _ _).alloc (Nat.le_refl _) _).alloc (by simp) _)
  clear hb h8 hl
  have HBL := hid hbl
  clear hbl
  go_enter Tryd.func42, Tryd.ntmps42
  go_wp2_with fail
  obtain ⟨u, hu⟩ : ∃ u, u = ((w.alloc (.cells #[.int .i64 0, .slice none 0 0, .slice none 0 0] 32)).alloc (.cells #[.slice bo bl bc, .int .i64 0, .bool true] 121)) := ⟨_, rfl⟩
  have HU0 := hid (show u.heap[w.heap.size]? = some (.cells #[.int .i64 0, .slice none 0 0, .slice none 0 0] 32) by rw [hu, al_old _ _ (by simp), al_new _ _ rfl])
  have HUS := hid (show u.heap.size = w.heap.size + 2 by rw [hu]; simp)
  rw [← hu] at HRS0 HB0
  rw [← hu]
  clear hu
  refine (take_step HRS0.out HB0.out (by omega)).mono ?_
  rintro e w1 ⟨c, p1, ok1, rfl, hc64, hRS1, ho1, hq1⟩
  have HK1 := hid (show Ke b [c] p1 ok1 from Ke.step (ns := []) (p := 0) rfl (fun hn => noD_c (hn.mono (by omega))) hq1)
  have HRS1 := hid hRS1
  have HO1 := hid ho1
  have hs1' : w1.heap.size = w.heap.size + 2 := ho1.size.trans HUS.out
  clear hRS1 ho1 hq1
  go_wp2_with fail
  obtain ⟨w2, hw2⟩ : ∃ w2, w2 = w1.alloc (.cells #[.int .i64 (c : Int), .slice none 0 0, .slice none 0 0] 32) := ⟨_, rfl⟩
  rw [← hw2]
  try rw [hs1']
  have HRS2 := hid (show RD (w.heap.size + 1) w b p1 ok1 w2 from HRS1.out.keep (by rw [hw2, al_old _ _ HRS1.out.lt]))
  have HB1 := hid (show Below w.heap.size w w1 from HB0.out.trans ⟨HO1.out.os, HO1.out.tape, HO1.out.output, Nat.le_of_eq HO1.out.size.symm, fun q hq => HO1.out.block q (by omega)⟩)
  have HB2 := hid (show Below w.heap.size w w2 by rw [hw2]; exact HB1.out.alloc HB1.out.size _)
  have HW0 := hid (show w2.heap[w.heap.size]? = some (.cells #[.int .i64 0, .slice none 0 0, .slice none 0 0] 32) by rw [hw2, al_old _ _ (by omega), HO1.out.block _ (by omega)]; exact HU0.out)
  have HW2 := hid (show w2.heap[w.heap.size + 2]? = some (.cells #[.int .i64 (c : Int), .slice none 0 0, .slice none 0 0] 32) by rw [hw2, al_new _ _ hs1'.symm])
  clear hw2 hs1'
  rcases bool_cases ok1 with rfl | rfl
  rotate_left
  · have HND := hid (show NoD b by rcases HK1.out with ⟨_, h⟩ | ⟨h, _⟩; (· exact h); (· cases h))
    refine (take_stop HRS2.out).mono ?_
    rintro e w3 ⟨rfl, hRS3, ho3⟩
    have HRES := hid (show w3.heap[w.heap.size]? = some (.cells #[.int .i64 0, .slice none 0 0, .slice none 0 0] 32) from (ho3.block _ (by omega)).trans HW0.out)
    have HD3 := hid (show w3.heap[w.heap.size + 2]? = some (.cells #[.int .i64 (c : Int), .slice none 0 0, .slice none 0 0] 32) from (ho3.block _ (by omega)).trans HW2.out)
    have HBEL := hid (show Below w.heap.size w w3 from HB2.out.trans ⟨ho3.os, ho3.tape, ho3.output, Nat.le_of_eq ho3.size.symm, fun q hq => ho3.block q (by omega)⟩)
    have d0 : w3.cell? ⟨w.heap.size + 2, 0, none⟩ = some (.int .i64 (c : Int)) := by rw [cell_of_row w3 _ 0 _ 32 (0, 0) HD3.out]; rfl
    have x2 : w3.cell? ⟨w.heap.size + 1, 2, none⟩ = some (.bool false) := by obtain ⟨_, _, _, h, _⟩ := hRS3; exact h.cells.1.2.2
    have r0 : w3.cell? ⟨w.heap.size, 0, none⟩ = some (.int .i64 0) := by rw [cell_of_row w3 _ 0 _ 32 (0, 0) HRES.out]; rfl
    have r1 : w3.cell? ⟨w.heap.size, 1, none⟩ = some (.slice none 0 0) := by rw [cell_of_row w3 _ 1 _ 32 (0, 0) HRES.out]; rfl
    have r2 : w3.cell? ⟨w.heap.size, 2, none⟩ = some (.slice none 0 0) := by rw [cell_of_row w3 _ 2 _ 32 (0, 0) HRES.out]; rfl
    have z0 := frozen_of_row w3 w.heap.size 0 _ 32 HRES.out
    have z1 := frozen_of_row w3 w.heap.size 1 _ 32 HRES.out
    have z2 := frozen_of_row w3 w.heap.size 2 _ 32 HRES.out
    clear hRS3 ho3
    go_wp2
    (try simp only [Exit.inBlock, Exit.then])
    refine bodyPost_ret (results_row_tmp rfl _ _ w.heap.size 32 #[.int .i64 0, .slice none 0 0, .slice none 0 0] (0, 0) _ rfl (st3_at (v0 := .int .i64 0) (v1 := .slice none 0 0) (v2 := .slice none 0 0) HRES.out) Tryd.underlying32 rfl (by kernel_rfl)) rfl ?_
    exact .inr ⟨HND.out, rfl, st3_below HBEL.out (Nat.le_refl _)⟩
  have HKE1 := hid (show b = encL [c] ++ b.drop p1 by rcases HK1.out with ⟨h, _⟩ | ⟨_, h⟩; (· cases h); (· exact h))
  refine (take_step HRS2.out HB2.out (by omega)).mono ?_
  rintro e w3 ⟨n, p3, ok3, rfl, hn3, hRS3, ho3, hq3⟩
  have HK3 := hid (show Ke b (itN c n [] []) p3 ok3 from Ke.step (ns := [c]) HKE1.out (fun hn => noD_n (c := c) (r := b.drop p1) (by have h := HKE1.out; simpa [encL] using h) (hn.mono (by omega))) hq3)
  rcases bool_cases ok3 with rfl | rfl
  rotate_left
  · have HND := hid (show NoD b by rcases HK3.out with ⟨_, h⟩ | ⟨h, _⟩; (· exact h); (· cases h))
    have HRES := hid (show w3.heap[w.heap.size]? = some (.cells #[.int .i64 0, .slice none 0 0, .slice none 0 0] 32) from (ho3.block _ (by omega)).trans HW0.out)
    have HD3 := hid (show w3.heap[w.heap.size + 2]? = some (.cells #[.int .i64 (c : Int), .slice none 0 0, .slice none 0 0] 32) from (ho3.block _ (by omega)).trans HW2.out)
    have HBEL := hid (show Below w.heap.size w w3 from HB2.out.trans ⟨ho3.os, ho3.tape, ho3.output, Nat.le_of_eq ho3.size.symm, fun q hq => ho3.block q (by omega)⟩)
    have d0 : w3.cell? ⟨w.heap.size + 2, 0, none⟩ = some (.int .i64 (c : Int)) := by rw [cell_of_row w3 _ 0 _ 32 (0, 0) HD3.out]; rfl
    have x2 : w3.cell? ⟨w.heap.size + 1, 2, none⟩ = some (.bool false) := by obtain ⟨_, _, _, h, _⟩ := hRS3; exact h.cells.1.2.2
    have r0 : w3.cell? ⟨w.heap.size, 0, none⟩ = some (.int .i64 0) := by rw [cell_of_row w3 _ 0 _ 32 (0, 0) HRES.out]; rfl
    have r1 : w3.cell? ⟨w.heap.size, 1, none⟩ = some (.slice none 0 0) := by rw [cell_of_row w3 _ 1 _ 32 (0, 0) HRES.out]; rfl
    have r2 : w3.cell? ⟨w.heap.size, 2, none⟩ = some (.slice none 0 0) := by rw [cell_of_row w3 _ 2 _ 32 (0, 0) HRES.out]; rfl
    have z0 := frozen_of_row w3 w.heap.size 0 _ 32 HRES.out
    have z1 := frozen_of_row w3 w.heap.size 1 _ 32 HRES.out
    have z2 := frozen_of_row w3 w.heap.size 2 _ 32 HRES.out
    clear hRS3 ho3 hq3
    go_wp2
    (try simp only [Exit.inBlock, Exit.then])
    refine bodyPost_ret (results_row_tmp rfl _ _ w.heap.size 32 #[.int .i64 0, .slice none 0 0, .slice none 0 0] (0, 0) _ rfl (st3_at (v0 := .int .i64 0) (v1 := .slice none 0 0) (v2 := .slice none 0 0) HRES.out) Tryd.underlying32 rfl (by kernel_rfl)) rfl ?_
    exact .inr ⟨HND.out, rfl, st3_below HBEL.out (Nat.le_refl _)⟩
  have HKE3 := hid (show b = encL (itN c n [] []) ++ b.drop p3 by rcases HK3.out with ⟨h, _⟩ | ⟨_, h⟩; (· cases h); (· exact h))
  by_cases hrg : c < 1 ∨ 64 < c ∨ n < 1 ∨ 1024 < n
  · have HND := hid (noD_range HKE3.out hrg)
    have HRES := hid (show w3.heap[w.heap.size]? = some (.cells #[.int .i64 0, .slice none 0 0, .slice none 0 0] 32) from (ho3.block _ (by omega)).trans HW0.out)
    have HD3 := hid (show w3.heap[w.heap.size + 2]? = some (.cells #[.int .i64 (c : Int), .slice none 0 0, .slice none 0 0] 32) from (ho3.block _ (by omega)).trans HW2.out)
    have HBEL := hid (show Below w.heap.size w w3 from HB2.out.trans ⟨ho3.os, ho3.tape, ho3.output, Nat.le_of_eq ho3.size.symm, fun q hq => ho3.block q (by omega)⟩)
    have d0 : w3.cell? ⟨w.heap.size + 2, 0, none⟩ = some (.int .i64 (c : Int)) := by rw [cell_of_row w3 _ 0 _ 32 (0, 0) HD3.out]; rfl
    have x2 : w3.cell? ⟨w.heap.size + 1, 2, none⟩ = some (.bool true) := by obtain ⟨_, _, _, h, _⟩ := hRS3; exact h.cells.1.2.2
    have r0 : w3.cell? ⟨w.heap.size, 0, none⟩ = some (.int .i64 0) := by rw [cell_of_row w3 _ 0 _ 32 (0, 0) HRES.out]; rfl
    have r1 : w3.cell? ⟨w.heap.size, 1, none⟩ = some (.slice none 0 0) := by rw [cell_of_row w3 _ 1 _ 32 (0, 0) HRES.out]; rfl
    have r2 : w3.cell? ⟨w.heap.size, 2, none⟩ = some (.slice none 0 0) := by rw [cell_of_row w3 _ 2 _ 32 (0, 0) HRES.out]; rfl
    have z0 := frozen_of_row w3 w.heap.size 0 _ 32 HRES.out
    have z1 := frozen_of_row w3 w.heap.size 1 _ 32 HRES.out
    have z2 := frozen_of_row w3 w.heap.size 2 _ 32 HRES.out
    clear hRS3 ho3 hq3
    by_cases g1 : c < 1
    · have g1' : (c : Int) < 1 := by omega
      go_wp2
      (try simp only [Exit.inBlock, Exit.then])
      refine bodyPost_ret (results_row_tmp rfl _ _ w.heap.size 32 #[.int .i64 0, .slice none 0 0, .slice none 0 0] (0, 0) _ rfl (st3_at (v0 := .int .i64 0) (v1 := .slice none 0 0) (v2 := .slice none 0 0) HRES.out) Tryd.underlying32 rfl (by kernel_rfl)) rfl ?_
      exact .inr ⟨HND.out, rfl, st3_below HBEL.out (Nat.le_refl _)⟩
    have g1' : ¬ (c : Int) < 1 := by omega
    by_cases g2 : 64 < c
    · have g2' : (64 : Int) < (c : Int) := by omega
      go_wp2
      (try simp only [Exit.inBlock, Exit.then])
      refine bodyPost_ret (results_row_tmp rfl _ _ w.heap.size 32 #[.int .i64 0, .slice none 0 0, .slice none 0 0] (0, 0) _ rfl (st3_at (v0 := .int .i64 0) (v1 := .slice none 0 0) (v2 := .slice none 0 0) HRES.out) Tryd.underlying32 rfl (by kernel_rfl)) rfl ?_
      exact .inr ⟨HND.out, rfl, st3_below HBEL.out (Nat.le_refl _)⟩
    have g2' : ¬ (64 : Int) < (c : Int) := by omega
    by_cases g3 : n < 1
    · have g3' : (n : Int) < 1 := by omega
      go_wp2
      (try simp only [Exit.inBlock, Exit.then])
      refine bodyPost_ret (results_row_tmp rfl _ _ w.heap.size 32 #[.int .i64 0, .slice none 0 0, .slice none 0 0] (0, 0) _ rfl (st3_at (v0 := .int .i64 0) (v1 := .slice none 0 0) (v2 := .slice none 0 0) HRES.out) Tryd.underlying32 rfl (by kernel_rfl)) rfl ?_
      exact .inr ⟨HND.out, rfl, st3_below HBEL.out (Nat.le_refl _)⟩
    have g3' : ¬ (n : Int) < 1 := by omega
    have g4' : (1024 : Int) < (n : Int) := by omega
    go_wp2
    (try simp only [Exit.inBlock, Exit.then])
    refine bodyPost_ret (results_row_tmp rfl _ _ w.heap.size 32 #[.int .i64 0, .slice none 0 0, .slice none 0 0] (0, 0) _ rfl (st3_at (v0 := .int .i64 0) (v1 := .slice none 0 0) (v2 := .slice none 0 0) HRES.out) Tryd.underlying32 rfl (by kernel_rfl)) rfl ?_
    exact .inr ⟨HND.out, rfl, st3_below HBEL.out (Nat.le_refl _)⟩
  have hc1 : 1 ≤ c ∧ c ≤ 64 ∧ 1 ≤ n ∧ n ≤ 1024 := by omega
  obtain ⟨hc1, hc2, hn1, hn2⟩ := hc1
  have g1' : ¬ (c : Int) < 1 := by omega
  have g2' : ¬ (64 : Int) < (c : Int) := by omega
  have g3' : ¬ (n : Int) < 1 := by omega
  have g4' : ¬ (1024 : Int) < (n : Int) := by omega
  clear hrg
  have HRES := hid (show w3.heap[w.heap.size]? = some (.cells #[.int .i64 0, .slice none 0 0, .slice none 0 0] 32) from (ho3.block _ (by omega)).trans HW0.out)
  have HD3 := hid (show w3.heap[w.heap.size + 2]? = some (.cells #[.int .i64 (c : Int), .slice none 0 0, .slice none 0 0] 32) from (ho3.block _ (by omega)).trans HW2.out)
  have HBEL := hid (show Below w.heap.size w w3 from HB2.out.trans ⟨ho3.os, ho3.tape, ho3.output, Nat.le_of_eq ho3.size.symm, fun q hq => ho3.block q (by omega)⟩)
  have d0 : w3.cell? ⟨w.heap.size + 2, 0, none⟩ = some (.int .i64 (c : Int)) := by rw [cell_of_row w3 _ 0 _ 32 (0, 0) HD3.out]; rfl
  have x2 : w3.cell? ⟨w.heap.size + 1, 2, none⟩ = some (.bool true) := by obtain ⟨_, _, _, h, _⟩ := hRS3; exact h.cells.1.2.2
  have r0 : w3.cell? ⟨w.heap.size, 0, none⟩ = some (.int .i64 0) := by rw [cell_of_row w3 _ 0 _ 32 (0, 0) HRES.out]; rfl
  have r1 : w3.cell? ⟨w.heap.size, 1, none⟩ = some (.slice none 0 0) := by rw [cell_of_row w3 _ 1 _ 32 (0, 0) HRES.out]; rfl
  have r2 : w3.cell? ⟨w.heap.size, 2, none⟩ = some (.slice none 0 0) := by rw [cell_of_row w3 _ 2 _ 32 (0, 0) HRES.out]; rfl
  have z0 := frozen_of_row w3 w.heap.size 0 _ 32 HRES.out
  have z1 := frozen_of_row w3 w.heap.size 1 _ 32 HRES.out
  have z2 := frozen_of_row w3 w.heap.size 2 _ 32 HRES.out
  have HH3 := hid (show GtE w.heap.size c n w b 0 true w3 from ⟨none, 0, none, 0, [], [], [], p3, (gti_begin HW0.out HW2.out HB2.out).only rfl ho3, hRS3, rfl, .inr ⟨rfl, HKE3.out, Shp.nil c⟩⟩)
  clear hRS3 ho3 hq3
  go_wp2
  clear d0 x2 r0 r1 r2 z0 z1 z2 g1' g2' g3' g4' HRES HD3 HBEL HKE3 HKE1 HK3 HK1 HRS2 HB1 HB2 HW0 HW2 HRS1 HO1 HU0 HUS HRS0 HB0
  go_loopw [7] (fun y wr => ∃ (k : Nat) (ok : Bool), y = .int .i64 k ∧ k ≤ n ∧ Hid (GtE w.heap.size c n w b k ok wr)) (fun y _ => n - (intOf y).toNat)
  case atStart => exact ⟨0, true, rfl, Nat.zero_le _, HH3⟩
  case round =>
    clear HH3
    obtain ⟨k, ok, rfl, hk, HH⟩ := hrel
    obtain ⟨no, nc, to, tc, R, T, V, p, hG, hR, hRl, hE⟩ := HH.out
    have HRES := hid hG.res
    have HBEL := hid hG.bel
    have HG := hid hG
    have HR := hid hR
    have HRl := hid hRl
    have HE := hid hE
    have HXC := hid (show ∃ so sc, wr.cell? ⟨w.heap.size + 1, 0, none⟩ = some (.slice so b.length sc) ∧ wr.cell? ⟨w.heap.size + 1, 1, none⟩ = some (.int .i64 (p : Int)) ∧ wr.cell? ⟨w.heap.size + 1, 2, none⟩ = some (.bool ok) ∧ p ≤ b.length by obtain ⟨so, sl, sc, h, _, h3, h4, _⟩ := hR; obtain ⟨h0, h1, h2⟩ := h.cells.1; exact ⟨so, sc, by rw [h0, h3], h1, h2, by omega⟩)
    clear hG hR hRl hE HH
    obtain ⟨so, sc, x0, x1, x2, hpb⟩ := HXC.out
    rcases bool_cases ok with rfl | rfl
    rotate_left
    · have HND := hid (show NoD b by rcases HE.out with ⟨_, h⟩ | ⟨h, _⟩; (· exact h); (· cases h))
      have r0 : wr.cell? ⟨w.heap.size, 0, none⟩ = some (.int .i64 0) := by rw [cell_of_row wr _ 0 _ 32 (0, 0) HRES.out]; rfl
      have r1 : wr.cell? ⟨w.heap.size, 1, none⟩ = some (.slice none 0 0) := by rw [cell_of_row wr _ 1 _ 32 (0, 0) HRES.out]; rfl
      have r2 : wr.cell? ⟨w.heap.size, 2, none⟩ = some (.slice none 0 0) := by rw [cell_of_row wr _ 2 _ 32 (0, 0) HRES.out]; rfl
      have z0 := frozen_of_row wr w.heap.size 0 _ 32 HRES.out
      have z1 := frozen_of_row wr w.heap.size 1 _ 32 HRES.out
      have z2 := frozen_of_row wr w.heap.size 2 _ 32 HRES.out
      by_cases hlt : k < n
      · have i3' : (k : Int) < (n : Int) := by omega
        go_wp2
        (try simp only [Exit.inBlock, Exit.then])
        refine bodyPost_ret (results_row_tmp rfl _ _ w.heap.size 32 #[.int .i64 0, .slice none 0 0, .slice none 0 0] (0, 0) _ rfl (st3_at (v0 := .int .i64 0) (v1 := .slice none 0 0) (v2 := .slice none 0 0) HRES.out) Tryd.underlying32 rfl (by kernel_rfl)) rfl ?_
        exact .inr ⟨HND.out, rfl, st3_below HBEL.out (Nat.le_refl _)⟩
      · have i3' : ¬ (k : Int) < (n : Int) := by omega
        go_wp2
        (try simp only [Exit.inBlock, Exit.then])
        refine bodyPost_ret (results_row_tmp rfl _ _ w.heap.size 32 #[.int .i64 0, .slice none 0 0, .slice none 0 0] (0, 0) _ rfl (st3_at (v0 := .int .i64 0) (v1 := .slice none 0 0) (v2 := .slice none 0 0) HRES.out) Tryd.underlying32 rfl (by kernel_rfl)) rfl ?_
        exact .inr ⟨HND.out, rfl, st3_below HBEL.out (Nat.le_refl _)⟩
    have HEB := hid (show b = encL (itN c n R T) ++ b.drop p ∧ Shp c R T by rcases HE.out with ⟨h, _⟩ | ⟨_, h⟩; (· cases h); (· exact h))
    by_cases hlt : k < n
    · have i3' : (k : Int) < (n : Int) := by omega
      have d2 : wr.cell? ⟨w.heap.size + 2, 2, none⟩ = some (.slice to k tc) := by rw [cell_of_row wr _ 2 _ 32 (0, 0) HG.out.dfa]; rfl
      clear x0 x1
      go_wp2_with fail
      refine wp_region_mix [(0, true), (1, true), (2, true), (3, false), (4, false), (5, false), (6, true), (7, false)] (fun w' => w'.cell? ⟨w.heap.size + 2, 2, none⟩ = some (.slice to k tc)) (fun j => j == 7) (by kernel_rfl) (by kernel_rfl) (fun j hj => by have := beq_iff_eq.1 hj; subst this; decide) rfl (by kernel_rfl) d2 ?_
      iterate 3 (refine mix_free ?_ rfl (by kernel_rfl) (fun w' hS => ?_) ?_; (rotate_left; (go_simp; with_reducible rfl); rotate_left))
      obtain ⟨wd, hwd⟩ : ∃ wd, wd = wr.drew := ⟨_, rfl⟩
      have HGd := hid (show GtI w.heap.size c k w wd no nc k to tc R T V by rw [hwd]; exact HG.out.keep rfl (fun _ _ _ => rfl) (Nat.le_refl _) ⟨rfl, rfl, rfl⟩)
      have HRd := hid (show RD (w.heap.size + 1) w b p true wd by rw [hwd]; exact HR.out.keep rfl)
      rw [← hwd]
      clear hwd HG HR d2 x2 HXC HRES HBEL HE
      refine mix_go rfl (by kernel_rfl) fun KK hKK => ?_
      go_simp
      refine (take_step HRd.out HGd.out.bel (by omega)).mono ?_
      rintro e w4 ⟨t, p4, ok4, rfl, ht1, hR4, ho4, hq4⟩
      have HG4 := hid (HGd.out.only rfl ho4)
      have HR4 := hid hR4
      have HK4 := hid (show Ke b (itN c n R T ++ itR (t : Int) []) p4 ok4 from Ke.step HEB.out.1 (fun hn => noD_t HEB.out.1 HEB.out.2 (by have := HRl.out; omega) (hn.mono (by omega))) hq4)
      have d4 : w4.cell? ⟨w.heap.size + 2, 2, none⟩ = some (.slice to k tc) := by rw [cell_of_row w4 _ 2 _ 32 (0, 0) HG4.out.dfa]; rfl
      refine hKK _ _ (fun _ => d4) ?_
      clear hKK KK hR4 ho4 hq4 HGd HRd
      refine mix_go rfl (by kernel_rfl) fun KK hKK => ?_
      go_simp
      refine hKK _ _ (fun _ => cell_al d4) ?_
      clear hKK KK
      have hP4 : w.heap.size + 3 ≤ w4.heap.size := lt_of HG4.out.dfa
      refine mix_go rfl (by kernel_rfl) fun KK hKK => ?_
      refine wp_append_lies _ _ _ 28 rfl (w.heap.size + 3) 3 i3 (.int .i64 0) 1 8 Tryd.underlying28 hi3 hy0 hy1 hy2 rfl (by decide) (.slice to k tc) k (i64s T) rfl (HG4.out.tk.alloc _) ⟨w4.heap.size, 0, none⟩ 1 1 [.int .i64 (t : Int)] rfl rfl (news_one w4 _ 3) (i64s_one [(t : Int)]) (by decide) (by unfold maxLen; omega) (by omega) (by simp; omega) (w4.alloc (.cells #[.int .i64 (t : Int)] 3)).heap.size rfl ?_
      intro g8 c8 w8 o8 gr8 hl8 hlt8
      have hs8 : w4.heap.size + 1 ≤ w8.heap.size := by
        have h : (w4.alloc (.cells #[.int .i64 (t : Int)] 3)).heap.size ≤ w8.heap.size := gr8.size
        simpa using h
      have hblk8 : ∀ q, q < w4.heap.size → (Value.slice to k tc).ownBlock ≠ some q → w8.heap[q]? = w4.heap[q]? := fun q hq hne => (gr8.block q (by show q < (w4.alloc _).heap.size; simp; omega) (fun e => hne e.symm)).trans (al_old _ _ hq)
      have hlow : ∀ q, q < w.heap.size + 3 → (Value.slice to k tc).ownBlock ≠ some q := fun q hq e => by have := (HG4.out.tk.lt q e).1; omega
      have HG9 := hid (HG4.out.take rfl o8 hblk8 (hl8.elim .inl (fun h => .inr (by have h' : g8 = (w4.alloc (.cells #[.int .i64 (t : Int)] 3)).heap.size := h; simp at h'; omega))) (by omega) ⟨gr8.os, gr8.tape, gr8.output⟩)
      have hd8 : w8.heap[w.heap.size + 2]? = some (.cells #[.int .i64 (c : Int), .slice no k nc, .slice to k tc] 32) := (hblk8 _ (by omega) (hlow _ (by omega))).trans HG4.out.dfa
      have d8 : w8.cell? ⟨w.heap.size + 2, 2, none⟩ = some (.slice to k tc) := by rw [cell_of_row w8 _ 2 _ 32 (0, 0) hd8]; rfl
      have fz := frozen_of_row w8 (w.heap.size + 2) 2 _ 32 hd8
      have HR9 := hid (show RD (w.heap.size + 1) w b p4 ok4 (w8.setCell ⟨w.heap.size + 2, 2, none⟩ (.slice (some ⟨g8, 0, none⟩) (k + 1) c8)) from HR4.out.keep ((heap_setCell_other w8 ⟨w.heap.size + 2, 2, none⟩ (w.heap.size + 1) _ (fun e => by have e' : w.heap.size + 1 = w.heap.size + 2 := e; omega)).trans (hblk8 _ (by omega) (hlow _ (by omega)))))
      refine hKK _ _ (fun _ => d8) ?_
      clear hKK KK o8 gr8 hl8 hlt8 hblk8 hlow hs8 hd8 d4 HG4 HR4
      refine mix_free ?_ rfl (by kernel_rfl) (fun w' hS => ?_) ?_; (rotate_left; (go_simp; with_reducible rfl); rotate_left)
      refine mix_go rfl (by kernel_rfl) fun KK hKK => ?_
      go_simp
      refine hKK _ _ (fun h => by cases h) ?_
      clear hKK KK
      refine mix_end (NoPanic.normal ?_)
      obtain ⟨w9, hw9⟩ : ∃ w9, w9 = w8.setCell ⟨w.heap.size + 2, 2, none⟩ (.slice (some ⟨g8, 0, none⟩) (k + 1) c8) := ⟨_, rfl⟩
      rw [← hw9] at HG9 HR9
      rw [← hw9]
      clear hw9 d8 fz hP4
      have e0 : w9.cell? ⟨w.heap.size + 2, 0, none⟩ = some (.int .i64 (c : Int)) := by rw [cell_of_row w9 _ 0 _ 32 (0, 0) HG9.out.dfa]; rfl
      have HLO := hid (show ∀ q, (Value.slice no k nc).ownBlock = some q ∨ (Value.slice (some ⟨g8, 0, none⟩) (k + 1) c8).ownBlock = some q → q < w9.heap.size from fun q hq => hq.elim (fun h => (HG9.out.nx.lt q h).2) (fun h => (HG9.out.tk.lt q h).2))
      have HF0 := hid (show GtF w.heap.size c n w w9 b R T (t : Int) 0 ok4 none 0 w9 from ⟨[], p4, HR9.out, HK4.out, rfl, fun _ h => (by cases h), World.ownsRow_nil _ _ _ _, Ah.refl _ _⟩)
      have hP9 : w.heap.size + 3 ≤ w9.heap.size := lt_of HG9.out.dfa
      go_wp2
      clear e0 HR9 HK4
      go_loopw [8, 9] (fun x y wr => ∃ (j : Nat) (ok : Bool) (vo : Option Addr) (vc : Nat), x = .slice vo j vc ∧ y = .int .i64 j ∧ j ≤ c ∧ Hid (GtF w.heap.size c n w w9 b R T (t : Int) j ok vo vc wr)) (fun _ y _ => c - (intOf y).toNat)
      case atStart => exact ⟨0, ok4, none, 0, rfl, rfl, Nat.zero_le _, HF0⟩
      case round =>
        clear HF0
        obtain ⟨j, ok, vo, vc, rfl, rfl, hj, HJ⟩ := hrel
        obtain ⟨ro, p5, hR, hK, hro, hx, hA, hAg⟩ := HJ.out
        have HGW := hid (show ∀ W, Ah (w.heap.size + 1) w9 W → GtI w.heap.size c k w W no nc (k + 1) (some ⟨g8, 0, none⟩) c8 R (T ++ [(t : Int)]) V from fun W h => HG9.out.keep rfl (fun q hq hx => h.block q hq hx) h.size ⟨h.os, h.tape, h.output⟩)
        have e0 : wr.cell? ⟨w.heap.size + 2, 0, none⟩ = some (.int .i64 (c : Int)) := by rw [cell_of_row wr _ 0 _ 32 (0, 0) (HGW.out _ hAg).dfa]; rfl
        have x2 : wr.cell? ⟨w.heap.size + 1, 2, none⟩ = some (.bool ok) := by obtain ⟨_, _, _, h, _⟩ := hR; exact h.cells.1.2.2
        have hAs := hAg.size
        have HRX := hid hR
        have HKX := hid hK
        have HROL := hid hro
        have HROX := hid hx
        have HA := hid hA
        have HAG := hid hAg
        clear hR hK hro hx hA hAg HJ
        by_cases hgo : ok = true ∧ j < c
        · obtain ⟨rfl, hjl⟩ := hgo
          have i5 : (j : Int) < (c : Int) := by omega
          have HKE := hid (show b = encL (itN c n R T ++ itR (t : Int) ro) ++ b.drop p5 by rcases HKX.out with ⟨h, _⟩ | ⟨_, h⟩; (· cases h); (· exact h))
          go_wp2_with fail
          refine (take_step HRX.out (HGW.out _ HAG.out).bel (by omega)).mono ?_
          rintro e w11 ⟨y, p11, ok11, rfl, hy11, hR11, ho11, hq11⟩
          have HAG11 := hid (HAG.out.only ho11)
          have HA11 := hid (show w11.ownsRow w9.heap.size 3 1 (.slice vo j vc) j (i64s ro) from own_same HA.out (fun q hq _ => ho11.block q (by have := (HA.out.lt q hq).1; omega)))
          have HR11 := hid hR11
          have HK11 := hid (show Ke b (itN c n R T ++ itR (t : Int) (ro ++ [(y : Int) - 1])) p11 ok11 from by
            have h1 := Ke.step HKE.out (fun hn => noD_x HKE.out HEB.out.2 (by have := HRl.out; omega) (by have := HROL.out; omega) (hn.mono (by omega))) hq11
            have e : itR (t : Int) (ro ++ [(y : Int) - 1]) = itR (t : Int) ro ++ [y] := by simp [itR]
            rw [e, ← List.append_assoc]
            exact h1)
          have ey : IntKind.i64.wrap ((y : Int) - 1) = (y : Int) - 1 := by rw [IntKind.wrap_i64]; omega
          have hs11 : w9.heap.size ≤ w11.heap.size := HAG11.out.size
          clear hR11 ho11 hq11 HRX HKX HA HAG e0 x2 HKE
          go_wp2_with (at_builtin; go_loud (refine wpList_append_lies _ rfl _ _ 28 rfl w9.heap.size 3 i3 (.int .i64 0) 1 8 Tryd.underlying28 hi3 hy0 hy1 hy2 rfl (by decide) (.slice vo j vc) j (i64s ro) rfl (HA11.out.alloc _) ⟨w11.heap.size, 0, none⟩ 1 1 [.int .i64 ((y : Int) - 1)] rfl rfl (news_one w11 _ 3) (i64s_one [(y : Int) - 1]) (by decide) (by unfold maxLen; omega) (by omega) (by simp; omega) (w11.heap.size + 1) (by simp) ?_); intro g5 c5 w5 o5 gr5 hl5 hlt5)
          have HF5 := hid (show GtF w.heap.size c n w w9 b R T (t : Int) (j + 1) ok11 (some ⟨g5, 0, none⟩) c5 w5 from ⟨ro ++ [(y : Int) - 1], p11, HR11.out.keep ((gr5.block _ (by have := HR11.out.lt; simp; omega) (fun e => by have := (HA11.out.lt _ e.symm).1; omega)).trans (al_old _ _ HR11.out.lt)), HK11.out, by rw [List.length_append, HROL.out]; rfl, fun x hx => by
            rcases List.mem_append.1 hx with h | h
            · exact HROX.out x h
            · rw [List.mem_singleton.1 h]; omega, by rw [i64s_snoc]; exact o5, HAG11.out.grown gr5 (fun q hq => (HA11.out.lt q hq).1)⟩)
          clear o5 gr5 hl5 hlt5 HA11 HAG11 HR11 HK11 ey
          go_wp2
          go_roundw
          case rel => exact ⟨j + 1, ok11, some ⟨g5, 0, none⟩, c5, rfl, by go_num, by omega, HF5⟩
          case measure => simp [intOf]; omega
        · have HGN := hid (HGW.out _ HAG.out)
          have HEN := hid (show (ok = false ∧ NoD b) ∨ (ok = true ∧ b = encL (itN c n (R ++ [ro]) (T ++ [(t : Int)])) ++ b.drop p5 ∧ Shp c (R ++ [ro]) (T ++ [(t : Int)])) from by
            rcases HKX.out with h | ⟨h1, h2⟩
            · exact .inl h
            · have hjc : ro.length = c := by have := HROL.out; have h3 : ¬ j < c := fun h => hgo ⟨h1, h⟩; omega
              refine .inr ⟨h1, ?_, HEB.out.2.add hjc HROX.out (by omega)⟩
              have e : itN c n (R ++ [ro]) (T ++ [(t : Int)]) = itN c n R T ++ itR (t : Int) ro := by
                unfold itN
                rw [itRs_snoc ro _ HEB.out.2.len]
                rfl
              rw [e]
              exact h2)
          have f1 : wr.cell? ⟨w.heap.size + 2, 1, none⟩ = some (.slice no k nc) := by rw [cell_of_row wr _ 1 _ 32 (0, 0) HGN.out.dfa]; rfl
          have hPr : w.heap.size + 3 ≤ wr.heap.size := lt_of HGN.out.dfa
          have HLW := hid (show ∀ q, q < w.heap.size + 3 → (Value.slice no k nc).ownBlock ≠ some q from fun q hq e => by have := (HGN.out.nx.lt q e).1; omega)
          have HBK := hid (show ∀ w5 : World, (∀ q, q < wr.heap.size → (Value.slice no k nc).ownBlock ≠ some q → w5.heap[q]? = wr.heap[q]?) → w5.cell? ⟨w.heap.size + 2, 1, none⟩ = some (.slice no k nc) ∧ w5.frozen? ⟨w.heap.size + 2, 1, none⟩ = false from fun w5 hq => by
            have h2 := (hq (w.heap.size + 2) (by omega) (HLW.out _ (by omega))).trans HGN.out.dfa
            exact ⟨by rw [cell_of_row w5 _ 1 _ 32 (0, 0) h2]; rfl, frozen_of_row w5 _ 1 _ 32 h2⟩)
          have HNX := hid (show ∀ (g5 c5 : Nat) (w5 : World), w5.ownsRow (w.heap.size + 3) 28 1 (.slice (some ⟨g5, 0, none⟩) (k + 1) c5) (k + 1) (V ++ [.slice vo j vc]) → (wr.alloc (.cells #[.slice vo j vc] 28)).grownBy w5 (Value.slice no k nc).ownBlock → ((Value.slice no k nc).ownBlock = some g5 ∨ g5 = wr.heap.size + 1) → GtE w.heap.size c n w b (k + 1) ok (w5.setCell ⟨w.heap.size + 2, 1, none⟩ (.slice (some ⟨g5, 0, none⟩) (k + 1) c5)) from fun g5 c5 w5 o5 gr5 hl5 => by
            have hq : ∀ q, q < wr.heap.size → (Value.slice no k nc).ownBlock ≠ some q → w5.heap[q]? = wr.heap[q]? := fun q hq hne => (gr5.block q (by simp; omega) (fun e => hne e.symm)).trans (al_old _ _ hq)
            have hsz : wr.heap.size + 1 ≤ w5.heap.size := by have h := gr5.size; simpa using h
            have o5' : w5.ownsRow (w.heap.size + 3) 28 1 (.slice (some ⟨g5, 0, none⟩) (k + 1) c5) (k + 1) (V ++ [.slice vo ro.length vc]) := by rw [HROL.out]; exact o5
            have hrd : RdIx wr (fun q => q < w.heap.size + 3 ∨ (Value.slice no k nc).ownBlock = some q ∨ (Value.slice (some ⟨g8, 0, none⟩) (k + 1) c8).ownBlock = some q) vo ro := own_reads HA.out (fun q hq1 _ _ => by
              rintro (h | h | h)
              · omega
              · have := HLO.out _ (.inl h); omega
              · have := HLO.out _ (.inr h); omega)
            exact ⟨_, c5, _, _, _, _, _, p5, HGN.out.row rfl HRl.out o5' hq (hl5.elim .inl (fun h => .inr (by omega))) (by omega) ⟨gr5.os, gr5.tape, gr5.output⟩ hrd, HRX.out.keep ((heap_setCell_other w5 ⟨w.heap.size + 2, 1, none⟩ (w.heap.size + 1) _ (fun e => by have e' : w.heap.size + 1 = w.heap.size + 2 := e; omega)).trans (hq _ (by omega) (HLW.out _ (by omega)))), by rw [List.length_append, HRl.out]; rfl, HEN.out⟩)
          have HNXR := hid HGN.out.nx
          clear HGW HRX HKX HROL HROX HA HAG HG9 HLO HEN HRl HEB
          by_cases hjl : j < c
          · have i5 : (j : Int) < (c : Int) := by omega
            rcases bool_cases ok with rfl | rfl
            · exact absurd ⟨rfl, hjl⟩ hgo
            · clear hgo
              go_wp2_with (at_builtin; go_loud (refine wpList_append_lies _ rfl _ _ 30 rfl (w.heap.size + 3) 28 i28 (.slice none 0 0) 1 24 Tryd.underlying30 hi28 hs0 hs1 hs2 rfl (by decide) (.slice no k nc) k V rfl (HNXR.out.alloc _) ⟨wr.heap.size, 0, none⟩ 1 1 [.slice vo j vc] rfl rfl (news_one wr _ 28) (fun u hu => by simp at hu; rw [hu]; rfl) (by decide) (by unfold maxLen; omega) (by omega) (by simp; omega) (wr.heap.size + 1) (by simp) ?_); intro g5 c5 w5 o5 gr5 hl5 hlt5; obtain ⟨f5, z5⟩ := HBK.out w5 (fun q hq1 hq2 => (gr5.block q (by simp; omega) (fun e => hq2 e.symm)).trans (al_old _ _ hq1)); have HF := hid (HNX.out g5 c5 w5 o5 gr5 hl5); clear o5 gr5 hl5 hlt5)
              go_wp2
              go_roundw
              case rel => exact ⟨k + 1, false, by go_num, by omega, HF⟩
              case measure => simp [intOf]; omega
          · have i5 : ¬ (j : Int) < (c : Int) := by omega
            clear hgo
            rcases bool_cases ok with rfl | rfl
            · skip
              go_wp2_with (at_builtin; go_loud (refine wpList_append_lies _ rfl _ _ 30 rfl (w.heap.size + 3) 28 i28 (.slice none 0 0) 1 24 Tryd.underlying30 hi28 hs0 hs1 hs2 rfl (by decide) (.slice no k nc) k V rfl (HNXR.out.alloc _) ⟨wr.heap.size, 0, none⟩ 1 1 [.slice vo j vc] rfl rfl (news_one wr _ 28) (fun u hu => by simp at hu; rw [hu]; rfl) (by decide) (by unfold maxLen; omega) (by omega) (by simp; omega) (wr.heap.size + 1) (by simp) ?_); intro g5 c5 w5 o5 gr5 hl5 hlt5; obtain ⟨f5, z5⟩ := HBK.out w5 (fun q hq1 hq2 => (gr5.block q (by simp; omega) (fun e => hq2 e.symm)).trans (al_old _ _ hq1)); have HF := hid (HNX.out g5 c5 w5 o5 gr5 hl5); clear o5 gr5 hl5 hlt5)
              go_wp2
              go_roundw
              case rel => exact ⟨k + 1, true, by go_num, by omega, HF⟩
              case measure => simp [intOf]; omega
            · skip
              go_wp2_with (at_builtin; go_loud (refine wpList_append_lies _ rfl _ _ 30 rfl (w.heap.size + 3) 28 i28 (.slice none 0 0) 1 24 Tryd.underlying30 hi28 hs0 hs1 hs2 rfl (by decide) (.slice no k nc) k V rfl (HNXR.out.alloc _) ⟨wr.heap.size, 0, none⟩ 1 1 [.slice vo j vc] rfl rfl (news_one wr _ 28) (fun u hu => by simp at hu; rw [hu]; rfl) (by decide) (by unfold maxLen; omega) (by omega) (by simp; omega) (wr.heap.size + 1) (by simp) ?_); intro g5 c5 w5 o5 gr5 hl5 hlt5; obtain ⟨f5, z5⟩ := HBK.out w5 (fun q hq1 hq2 => (gr5.block q (by simp; omega) (fun e => hq2 e.symm)).trans (al_old _ _ hq1)); have HF := hid (HNX.out g5 c5 w5 o5 gr5 hl5); clear o5 gr5 hl5 hlt5)
              go_wp2
              go_roundw
              case rel => exact ⟨k + 1, false, by go_num, by omega, HF⟩
              case measure => simp [intOf]; omega
    · have i3' : ¬ (k : Int) < (n : Int) := by omega
      have hkn : k = n := by omega
      subst hkn
      have r0 : wr.cell? ⟨w.heap.size, 0, none⟩ = some (.int .i64 0) := by rw [cell_of_row wr _ 0 _ 32 (0, 0) HRES.out]; rfl
      have r1 : wr.cell? ⟨w.heap.size, 1, none⟩ = some (.slice none 0 0) := by rw [cell_of_row wr _ 1 _ 32 (0, 0) HRES.out]; rfl
      have r2 : wr.cell? ⟨w.heap.size, 2, none⟩ = some (.slice none 0 0) := by rw [cell_of_row wr _ 2 _ 32 (0, 0) HRES.out]; rfl
      have z0 := frozen_of_row wr w.heap.size 0 _ 32 HRES.out
      have z1 := frozen_of_row wr w.heap.size 1 _ 32 HRES.out
      have z2 := frozen_of_row wr w.heap.size 2 _ 32 HRES.out
      have HPB := hid hpb
      clear hpb
      by_cases hpl : p = bl
      rotate_left
      · have i9 : ((p : Int) != (bl : Int)) = true := bne_iff_ne.2 (by omega)
        have HND := hid (noD_more HEB.out.1 HEB.out.2 HRl.out (fun h => by have h1 := congrArg List.length h; rw [List.length_drop, List.length_nil] at h1; have := HBL.out; have := HPB.out; omega))
        go_wp2
        (try simp only [Exit.inBlock, Exit.then])
        refine bodyPost_ret (results_row_tmp rfl _ _ w.heap.size 32 #[.int .i64 0, .slice none 0 0, .slice none 0 0] (0, 0) _ rfl (st3_at (v0 := .int .i64 0) (v1 := .slice none 0 0) (v2 := .slice none 0 0) HRES.out) Tryd.underlying32 rfl (by kernel_rfl)) rfl ?_
        exact .inr ⟨HND.out, rfl, st3_below HBEL.out (Nat.le_refl _)⟩
      have i9 : ((p : Int) != (bl : Int)) = false := bne_eq_false_iff_eq.2 (by omega)
      have HALL := hid (show b = encL (itN c k R T) by have h := HEB.out.1; rw [List.drop_of_length_le (by have := HBL.out; omega), List.append_nil] at h; exact h)
      have d0 : wr.cell? ⟨w.heap.size + 2, 0, none⟩ = some (.int .i64 (c : Int)) := by rw [cell_of_row wr _ 0 _ 32 (0, 0) HG.out.dfa]; rfl
      have d1 : wr.cell? ⟨w.heap.size + 2, 1, none⟩ = some (.slice no k nc) := by rw [cell_of_row wr _ 1 _ 32 (0, 0) HG.out.dfa]; rfl
      have d2 : wr.cell? ⟨w.heap.size + 2, 2, none⟩ = some (.slice to k tc) := by rw [cell_of_row wr _ 2 _ 32 (0, 0) HG.out.dfa]; rfl
      have HS := hid HEB.out.2
      have HDR := hid (HG.out.reads HRl.out.symm (by have h1 := HS.out.len; have h2 := HRl.out; omega) (by omega) (by omega) (fun row hr => by have := (HS.out.row row hr).1; unfold most; omega))
      clear hpl
      go_wp2_with fail
      refine (rcheck_any (c : Int) no to k nc k tc R T wr HDR.out).mono ?_
      rintro e w20 ⟨rfl, be⟩
      have HRES2 := hid ((be.block _ (lt_of HRES.out)).trans HRES.out)
      have HBE := hid be
      have HBEL2 := hid (HBEL.out.trans (be.mono HBEL.out.size))
      have d0 := cell_bl be d0
      have d1 := cell_bl be d1
      have d2 := cell_bl be d2
      have hlw : w.heap.size < w20.heap.size := lt_of HRES2.out
      clear r0 r1 r2 z0 z1 z2 x0 x1 x2 HRES HBEL be i9
      have HRES := HRES2
      have HBEL := HBEL2
      have r0 : w20.cell? ⟨w.heap.size, 0, none⟩ = some (.int .i64 0) := by rw [cell_of_row w20 _ 0 _ 32 (0, 0) HRES.out]; rfl
      have r1 : w20.cell? ⟨w.heap.size, 1, none⟩ = some (.slice none 0 0) := by rw [cell_of_row w20 _ 1 _ 32 (0, 0) HRES.out]; rfl
      have r2 : w20.cell? ⟨w.heap.size, 2, none⟩ = some (.slice none 0 0) := by rw [cell_of_row w20 _ 2 _ 32 (0, 0) HRES.out]; rfl
      have z0 := frozen_of_row w20 w.heap.size 0 _ 32 HRES.out
      have z1 := frozen_of_row w20 w.heap.size 1 _ 32 HRES.out
      have z2 := frozen_of_row w20 w.heap.size 2 _ 32 HRES.out
      rcases bool_cases (gdB (c : Int) R T) with hg | hg
      · have HGD := hid (gd_of hg)
        rw [gdC_yes (gd_of hg)]
        clear hg
        have HEN := hid (show encD (c : Int) R T = b by rw [HALL.out, encD_itN HGD.out.tl, HRl.out]; simp)
        go_wp2
        (try simp only [Exit.inBlock, Exit.then])
        refine bodyPost_ret (results_row_tmp rfl _ _ w.heap.size 32 #[.int .i64 (c : Int), .slice no k nc, .slice to k tc] (0, 0) _ rfl (st3_at (v0 := .int .i64 (c : Int)) (v1 := .slice no k nc) (v2 := .slice to k tc) HRES.out) Tryd.underlying32 rfl (by kernel_rfl)) rfl ?_
        have HTL := hid (show k = T.length by have h1 := HS.out.len; have h2 := HRl.out; omega)
        refine .inl ⟨(c : Int), R, T, no, to, nc, tc, HGD.out, HEN.out, ?_, ?_, st3_below HBEL.out (Nat.le_refl _)⟩
        · rw [HRl.out, ← HTL.out]; rfl
        · have h := HG.out.reads2 (W' := st3 w20 w.heap.size (.int .i64 (c : Int)) (.slice no k nc) (.slice to k tc)) (fun q hq hp => (st3_other (by omega)).trans (HBE.out.block q hq)) (by rw [st3_size]; exact HBE.out.size) HRl.out.symm HTL.out (by omega) (by omega) (fun row hr => by have := (HS.out.row row hr).1; unfold most; omega)
          rw [HRl.out, ← HTL.out]
          exact h
      · have HND := hid (noD_bad HALL.out HS.out HRl.out (not_gd hg))
        rw [gdC_no (not_gd hg)]
        clear hg
        go_wp2
        (try simp only [Exit.inBlock, Exit.then])
        refine bodyPost_ret (results_row_tmp rfl _ _ w.heap.size 32 #[.int .i64 0, .slice none 0 0, .slice none 0 0] (0, 0) _ rfl (st3_at (v0 := .int .i64 0) (v1 := .slice none 0 0) (v2 := .slice none 0 0) HRES.out) Tryd.underlying32 rfl (by kernel_rfl)) rfl ?_
        exact .inr ⟨HND.out, rfl, st3_below HBEL.out (Nat.le_refl _)⟩
end Go.Proofs.YtkmcbhdjecpmjaaDoor
