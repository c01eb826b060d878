import Derived.Test.YtkjnaamlhkldmabEv1
import Derived.Laws.Cells
import Derived.Laws.IdiomCopy
namespace Go.Proofs.Ytkjnaamlhkldmab
namespace Ev
variable {P : Program} {μ : Mu} {A : AW} {w : World}

theorem WR.lt (W : WR μ A w) {i : Nat} {o : AObj} {l : Loc} (hg : A.get i = some o) (hm : μ i = some l) : l.b < w.heap.size := by
  obtain ⟨o1, h2, _⟩ := W.has i o l hg hm
  exact (Array.getElem?_eq_some_iff.1 h2).1
theorem WR.upd (W : WR μ A w) {i : Nat} {l : Loc} {o0 o : AObj} {o' : Obj} (hg : A.get i = some o0) (hm : μ i = some l) (ho : OR μ l o o') :
    WR μ (A.set i (some o)) { w with heap := w.heap.setIfInBounds l.b o' } ∧ Ext μ A w μ (A.set i (some o)) { w with heap := w.heap.setIfInBounds l.b o' } := by
  have hlt := W.lt hg hm
  constructor
  · refine ⟨fun j oj l1 hj h1 => ?_, fun j m oj om lj lm hj hl h1 h2 h3 => ?_, W.dom⟩
    · rw [AW.get_set] at hj
      split at hj
      · rename_i e; subst e; cases hj
        rw [hm] at h1; cases h1
        exact ⟨o', by simp [hlt], ho⟩
      · rename_i e
        obtain ⟨o1, h2, h3⟩ := W.has j oj l1 hj h1
        refine ⟨o1, ?_, h3⟩
        have : l.b ≠ l1.b := fun hb => e (W.inj j i oj o0 l1 l hj hg h1 hm hb.symm)
        simp [this, h2]
    · rw [AW.get_set] at hj hl
      have get' : ∀ n on, (if n = i then some o else A.get n) = some on → ∃ on', A.get n = some on' := fun n on h => by
        split at h
        · rename_i e; subst e; exact ⟨_, hg⟩
        · exact ⟨_, h⟩
      obtain ⟨x, hx⟩ := get' j oj hj
      obtain ⟨y, hy⟩ := get' m om hl
      exact W.inj j m x y lj lm hx hy h1 h2 h3
  · refine ⟨Le.refl _, by simp, rfl, rfl, rfl, fun b' hb' hn => ?_, fun j oj lj hj h1 => ?_, Nat.le_refl _, fun _ _ => rfl⟩
    · have : l.b ≠ b' := hn i o0 l hg hm
      simp [this]
    · rw [AW.get_set] at hj
      split at hj
      · rename_i e; subst e; exact .inr ⟨j, o0, lj, hg, h1, rfl⟩
      · exact .inr ⟨j, oj, lj, hj, h1, rfl⟩
def Mu.add (μ : Mu) (i : Nat) (x : Loc) : Mu := ⟨fun j => if j = i ∧ gloc i = none then some x else μ j, fun g s hg => by
  by_cases e : g = i
  · subst e
    rw [if_neg (fun h => by rw [h.2] at hg; cases hg)]
    exact μ.glob g s hg
  · rw [if_neg (fun h => e h.1)]
    exact μ.glob g s hg⟩
theorem Mu.add_ne {μ : Mu} {i j : Nat} {x : Loc} (h : j ≠ i) : (μ.add i x) j = μ j := if_neg (fun hh => h hh.1)
theorem Mu.add_get {μ : Mu} {i : Nat} {x : Loc} (h : μ i = none) : (μ.add i x) i = some x := by
  refine if_pos ⟨rfl, ?_⟩
  cases hg : gloc i with
  | none => rfl
  | some s => rw [μ.glob i s hg] at h; cases h
theorem Mu.add_le {μ : Mu} {i : Nat} {x : Loc} (h : μ i = none) : Le μ (μ.add i x) := fun j y hj => by
  by_cases e : j = i
  · subst e; rw [h] at hj; cases hj
  · rw [Mu.add_ne e]; exact hj
theorem WR.new (W : WR μ A w) {d sz k : Nat} {o : AObj} {o' : Obj} (ho : OR (μ.add A.next ⟨w.heap.size, d, sz, k⟩) ⟨w.heap.size, d, sz, k⟩ o o') :
    WR (μ.add A.next ⟨w.heap.size, d, sz, k⟩) (A.push o) { w with heap := w.heap.push o' } ∧ Ext μ A w (μ.add A.next ⟨w.heap.size, d, sz, k⟩) (A.push o) { w with heap := w.heap.push o' } := by
  have hd := W.dom A.next (Nat.le_refl _)
  have hle : Le μ (μ.add A.next ⟨w.heap.size, d, sz, k⟩) := Mu.add_le hd
  constructor
  · refine ⟨fun j oj l1 hj h1 => ?_, fun j m oj om lj lm hj hl h1 h2 h3 => ?_, fun i hi => ?_⟩
    · rw [AW.get_push] at hj
      split at hj
      · rename_i e; subst e; cases hj
        rw [Mu.add_get hd] at h1; cases h1
        exact ⟨o', by simp, ho⟩
      · rename_i e
        rw [Mu.add_ne e] at h1
        obtain ⟨o1, h2, h3⟩ := W.has j oj l1 hj h1
        refine ⟨o1, ?_, h3.mono hle⟩
        have := (Array.getElem?_eq_some_iff.1 h2).1
        simp [Array.getElem?_push, h2]; omega
    · rw [AW.get_push] at hj hl
      by_cases ej : j = A.next
      · by_cases el : m = A.next
        · rw [ej, el]
        · rw [if_neg el] at hl
          subst ej
          rw [Mu.add_get hd] at h1
          cases h1
          have h4 : μ m = some lm := by rw [Mu.add_ne el] at h2; exact h2
          have := W.lt hl h4
          simp only at h3
          omega
      · rw [if_neg ej] at hj
        have h5 : μ j = some lj := by rw [Mu.add_ne ej] at h1; exact h1
        by_cases el : m = A.next
        · subst el
          rw [Mu.add_get hd] at h2
          cases h2
          have := W.lt hj h5
          simp only at h3
          omega
        · rw [if_neg el] at hl
          have h4 : μ m = some lm := by rw [Mu.add_ne el] at h2; exact h2
          exact W.inj j m oj om lj lm hj hl h5 h4 h3
    · have : i ≠ A.next := by simp only [AW.push] at hi; omega
      rw [Mu.add_ne this]
      exact W.dom i (by simp only [AW.push] at hi; omega)
  · refine ⟨hle, by simp, rfl, rfl, rfl, fun b' hb' hn => ?_, fun j oj lj hj h1 => ?_, by simp [AW.push], fun i hi => Mu.add_ne (by omega)⟩
    · simp [Array.getElem?_push]; omega
    · rw [AW.get_push] at hj
      split at hj
      · rename_i e; subst e
        rw [Mu.add_get hd] at h1
        cases h1
        exact .inl (Nat.le_refl _)
      · rename_i e
        exact .inr ⟨j, oj, lj, hj, by rw [Mu.add_ne e] at h1; exact h1, rfl⟩
theorem WR.drawn (W : WR μ A w) (n : Nat) : WR μ A { w with drawn := n } ∧ Ext μ A w μ A { w with drawn := n } :=
  ⟨⟨W.has, W.inj, W.dom⟩, ⟨Le.refl _, Nat.le_refl _, rfl, rfl, rfl, fun _ _ _ => rfl, fun i o l h h' => .inr ⟨i, o, l, h, h', rfl⟩, Nat.le_refl _, fun _ _ => rfl⟩⟩

theorem WR.cells (W : WR μ A w) {i : Nat} {l : Loc} {vs : List Value} {t : TypeId} {op : Bool} {fz : Option Nat} {es : Nat} (hm : μ i = some l) (hg : A.get i = some (.cells vs t op fz es)) :
    ∃ c fr, w.heap[l.b]? = some (.cells c t fr) ∧ c.size = l.sz ∧ l.d + vs.length ≤ l.sz ∧ (op = false → l.d = 0 ∧ vs.length = l.sz) ∧ es = l.k ∧ LR μ vs ((c.toList.drop l.d).take vs.length) ∧ FZ fz fr l.d l.sz := by
  obtain ⟨o', h6, h7⟩ := W.has _ _ l hg hm
  obtain ⟨c, fr, rfl, h8⟩ := h7
  exact ⟨c, fr, h6, h8⟩
theorem add_at (b o i : Nat) : (⟨b, o, none⟩ : Addr).add i = ⟨b, o + i, none⟩ := by unfold Addr.add; split <;> simp_all
theorem AR.add {a a' : Addr} (hr : AR μ a a') (n : Nat) : AR μ (a.add n) (a'.add n) := by
  obtain ⟨h1, l, h4, rfl⟩ := hr
  obtain ⟨b, o, s⟩ := a
  simp only at h1 h4 ⊢; subst h1
  rw [add_at, add_at]
  exact ⟨rfl, l, h4, by simp [Nat.add_assoc]⟩
theorem get_of_take {c : Array Value} {d n i : Nat} {v : Value} (h : ((c.toList.drop d).take n)[i]? = some v) : c[d + i]? = some v := by
  rw [List.getElem?_take] at h
  split at h
  · rw [List.getElem?_drop] at h; rw [← Array.getElem?_toList]; exact h
  · cases h
theorem load_one (W : WR μ A w) {a a' : Addr} {vs : List Value} {t : TypeId} {op : Bool} {fz : Option Nat} {es : Nat} {v : Value} (hr : AR μ a a') (hg : A.get a.block = some (.cells vs t op fz es)) (hv : vs[a.off]? = some v) :
    ∃ v', w.cell? a' = some v' ∧ VR μ v v' := by
  obtain ⟨h1, l, hm, rfl⟩ := hr
  obtain ⟨c, fr, h6, h8, h9, h10, hk, h11, h12⟩ := W.cells hm hg
  obtain ⟨v', h13, h14⟩ := h11.get hv
  exact ⟨v', by simp [World.cell?, h6, get_of_take h13], h14⟩
theorem load_cells (W : WR μ A w) {a a' : Addr} {vs : List Value} {t : TypeId} {op : Bool} {fz : Option Nat} {es : Nat} {n : Nat} (hr : AR μ a a') (hg : A.get a.block = some (.cells vs t op fz es)) (hn : a.off + n ≤ vs.length) :
    ∃ xs' : List Value, (loadCells a' n).run P w = .ok xs'.toArray w ∧ LR μ ((vs.drop a.off).take n) xs' := by
  obtain ⟨h1, l, hm, rfl⟩ := hr
  obtain ⟨c, fr, h6, h8, h9, h10, hk, h11, h12⟩ := W.cells hm hg
  have hL := (h11.drop a.off).take n
  have hlen : ((((c.toList.drop l.d).take vs.length).drop a.off).take n).length = n := by rw [hL.len]; simp; omega
  refine ⟨(((c.toList.drop l.d).take vs.length).drop a.off).take n, ?_, hL⟩
  have := run_loadCells_list (P := P) w ⟨l.b, l.d + a.off, none⟩ ((((c.toList.drop l.d).take vs.length).drop a.off).take n) (fun j v hj => ?_)
  · rw [hlen] at this; exact this
  · rw [List.getElem?_take] at hj
    split at hj
    · rw [List.getElem?_drop] at hj
      rw [add_at]
      simp [World.cell?, h6, Nat.add_assoc, get_of_take hj]
    · cases hj
theorem one_of_VR : ∀ {v v' : Value}, VR μ v v' → v'.oneCell' = v.oneCell'
  | .bool _, _, r | .int _ _, _, r | .float _ _, _, r | .string _, _, r | .pointer none, _, r | .slice none _ _, _, r | .map none, _, r | .nilFunc, _, r | .nilIface, _, r => by simp only [VR] at r; subst r; rfl
  | .pointer (some a), _, r => by simp only [VR] at r; obtain ⟨a', rfl, _⟩ := r; rfl
  | .slice (some a) n c, _, r => by simp only [VR] at r; obtain ⟨a', c', rfl, _⟩ := r; rfl
  | .map (some a), _, r => by simp only [VR] at r; obtain ⟨l, rfl, _⟩ := r; rfl
  | .func (.func f) ⟨x⟩ ⟨y⟩, _, r => by simp only [VR] at r; obtain ⟨x', y', rfl, _⟩ := r; rfl
  | .func (.method _) _ _, _, r | .func (.methodOf _ _) _ _, _, r | .func (.via _ _ _ _) _ _, _, r | .chan _, _, r | .complex _ _ _, _, r => by simp [VR] at r
  | .func (.yield i) _ _, _, r => by simp only [VR] at r; obtain ⟨_, _, l, rfl, _⟩ := r; rfl
  | .iface t u, _, r => by simp only [VR] at r; obtain ⟨u', rfl, _⟩ := r; rfl
  | .agg ⟨xs⟩, _, r => by simp only [VR] at r; obtain ⟨u', rfl, _⟩ := r; rfl
  | .tuple ⟨xs⟩, _, r => by simp only [VR] at r; obtain ⟨u', rfl, _⟩ := r; rfl
def splice (vs : List Value) (o : Nat) (xs : List Value) : List Value := vs.take o ++ xs ++ vs.drop (o + xs.length)
theorem splice_len {vs xs : List Value} {o : Nat} (h : o + xs.length ≤ vs.length) : (splice vs o xs).length = vs.length := by simp [splice]; omega
def FZok : Option Nat → Nat → Bool
  | none, _ => true
  | some n, o => n ≤ o
theorem splice_step {cur rest : List Value} {o : Nat} {v : Value} (h : o < cur.length) : splice (cur.set o v) (o + 1) rest = splice cur o (v :: rest) := by
  have e1 : (cur.set o v).take (o + 1) = cur.take o ++ [v] := by
    rw [List.take_add_one, List.take_set_of_le (Nat.le_refl _)]
    simp [h]
  have e2 : (cur.set o v).drop (o + 1 + rest.length) = cur.drop (o + 1 + rest.length) := List.drop_set_of_lt (by omega)
  simp only [splice, e1, e2, List.length_cons, List.append_assoc, List.cons_append, List.nil_append]
  rw [show o + 1 + rest.length = o + (rest.length + 1) by omega]
/-- What the model's storeCells does to a row. -/
theorem run_stores (g o : Nat) (t : TypeId) (fr : Nat × Nat) : ∀ (vs : List Value) (i : Nat) (cur : Array Value) (w : World), w.heap[g]? = some (.cells cur t fr) → (∀ j, j < vs.length → ¬ (fr.1 ≤ o + i + j ∧ o + i + j < fr.2)) → o + i + vs.length ≤ cur.size → (∀ v ∈ vs, v.oneCell' = true) →
    (storeCells ⟨g, o, none⟩ vs i).run P w = .ok () { w with heap := w.heap.setIfInBounds g (.cells (splice cur.toList (o + i) vs).toArray t fr) }
  | [], i, cur, w, hg, _, _, _ => by
    have hlt := (Array.getElem?_eq_some_iff.1 hg).1
    have : w.heap.setIfInBounds g (.cells cur t fr) = w.heap := by
      apply Array.ext_getElem?
      intro j
      rw [Array.getElem?_setIfInBounds]
      split
      · rename_i e; subst e; simp [hlt]; exact ((Array.getElem?_eq_some_iff.1 hg).2).symm
      · rfl
    simp only [storeCells, splice, List.append_nil, List.length_nil, Nat.add_zero, List.take_append_drop, Array.toArray_toList, this]
    rfl
  | v :: rest, i, cur, w, hg, hf, hl, h1 => by
    have hlt := (Array.getElem?_eq_some_iff.1 hg).1
    have hi : o + i < cur.size := by simp at hl; omega
    have hcell : w.cell? ⟨g, o + i, none⟩ = some cur[o + i] := by simp [World.cell?, hg, hi]
    have hfro : w.frozen? ⟨g, o + i, none⟩ = false := by
      have h5 := hf 0 (by simp)
      obtain ⟨lo, hi'⟩ := fr
      simp only [World.frozen?, hg, Bool.and_eq_false_iff, decide_eq_false_iff_not]
      simp only [Nat.add_zero] at h5
      omega
    have hset : w.setCell ⟨g, o + i, none⟩ v = { w with heap := w.heap.setIfInBounds g (.cells (cur.setIfInBounds (o + i) v) t fr) } := by
      unfold World.setCell
      congr 1
      apply Array.ext_getElem?
      intro j
      rw [Array.getElem?_modify, Array.getElem?_setIfInBounds]
      by_cases e : g = j
      · subst e; simp [hlt]
        have := (Array.getElem?_eq_some_iff.1 hg).2
        rw [this]
      · simp [e]
    have hst : (store ((⟨g, o, none⟩ : Addr).add i) v).run P w = .ok () { w with heap := w.heap.setIfInBounds g (.cells (cur.setIfInBounds (o + i) v) t fr) } := by
      rw [add_at, run_store P w _ v _ (h1 v (by simp))]
      simp [hcell, hfro, hset]
    have ih := run_stores g o t fr rest (i + 1) (cur.setIfInBounds (o + i) v) { w with heap := w.heap.setIfInBounds g (.cells (cur.setIfInBounds (o + i) v) t fr) } (by simp [hlt]) (fun j hj => by
      have h5 := hf (j + 1) (by simp; omega)
      rwa [show o + i + (j + 1) = o + (i + 1) + j by omega] at h5) (by simp at hl ⊢; omega) (fun x hx => h1 x (by simp [hx]))
    simp only [storeCells, Sem.run_bind, hst, Result.andThen, ih]
    congr 2
    rw [Array.setIfInBounds_setIfInBounds]
    congr 2
    apply congrArg
    rw [Array.toList_setIfInBounds, Nat.add_assoc o i 1 |>.symm]
    exact splice_step (by simpa using hi)
theorem LR.all1 {xs xs' : List Value} (hx : LR μ xs xs') (h1 : xs.all (·.oneCell') = true) : ∀ v ∈ xs', v.oneCell' = true := fun v hv => by
  obtain ⟨i, hi⟩ := List.getElem?_of_mem hv
  have hil : i < xs'.length := (List.getElem?_eq_some_iff.1 hi).1
  rw [hx.len] at hil
  obtain ⟨v', h5, h7⟩ := hx.get (List.getElem?_eq_getElem hil)
  rw [hi] at h5; cases h5
  rw [one_of_VR h7]
  exact List.all_eq_true.1 h1 _ (List.getElem_mem hil)
theorem splice_drop {c xs : List Value} {d o : Nat} (h : d + o + xs.length ≤ c.length) : (splice c (d + o) xs).drop d = splice (c.drop d) o xs := by
  simp only [splice, List.append_assoc]
  rw [List.drop_append, List.drop_take, List.drop_drop]
  have e1 : (List.take (d + o) c).length = d + o := by simp; omega
  rw [e1, show d + o - d = o by omega, show d - (d + o) = 0 by omega, List.drop_zero, show d + (o + xs.length) = d + o + xs.length by omega]
theorem splice_take {c xs : List Value} {n o : Nat} (h : o + xs.length ≤ n) (hn : n ≤ c.length) : (splice c o xs).take n = splice (c.take n) o xs := by
  simp only [splice]
  have e1 : List.take o (List.take n c) = List.take o c := by rw [List.take_take]; congr 1; omega
  rw [e1, List.take_append, List.take_of_length_le (by simp; omega)]
  congr 1
  rw [List.drop_take]
  congr 1
  simp; omega
theorem store_cells (W : WR μ A w) {a a' : Addr} {vs xs xs' : List Value} {t : TypeId} {op : Bool} {fz : Option Nat} {es : Nat} (hr : AR μ a a') (hg : A.get a.block = some (.cells vs t op fz es)) (hx : LR μ xs xs') (h1 : xs.all (·.oneCell') = true)
    (hn : a.off + xs.length ≤ vs.length) (hf : FZok fz a.off = true) :
    ∃ w', (storeCells a' xs').run P w = .ok () w' ∧ WR μ (A.set a.block (some (.cells (splice vs a.off xs) t op fz es))) w' ∧ Ext μ A w μ (A.set a.block (some (.cells (splice vs a.off xs) t op fz es))) w' := by
  obtain ⟨hs, l, hm, rfl⟩ := hr
  obtain ⟨c, fr, h6, h8, h9, h10, hk, h11, h12⟩ := W.cells hm hg
  have hcl : c.toList.length = l.sz := by simpa using h8
  have hrun := run_stores (P := P) l.b (l.d + a.off) t fr xs' 0 c w h6 (fun j hj => by
    rw [hx.len] at hj
    cases fz with
    | none => simp only [FZ] at h12; subst h12; simp
    | some n =>
      simp only [FZ] at h12
      simp only [FZok, decide_eq_true_eq] at hf
      rw [show l.d + a.off + 0 + j = l.d + (a.off + j) by omega, h12 _ (by omega)]; omega) (by rw [hx.len]; omega) (hx.all1 h1)
  refine ⟨_, hrun, W.upd hg hm ?_⟩
  simp only [Nat.add_zero]
  refine ⟨_, fr, rfl, ?_, ?_, ?_, hk, ?_, h12⟩
  · simp only [List.size_toArray]; rw [splice_len (by rw [hx.len]; omega)]; exact hcl
  · rw [splice_len hn]; exact h9
  · rw [splice_len hn]; exact h10
  · rw [splice_len hn]
    rw [show (splice c.toList (l.d + a.off) xs').toArray.toList = splice c.toList (l.d + a.off) xs' from rfl, splice_drop (by rw [hx.len]; omega), splice_take (by rw [hx.len]; exact hn) (by simp; omega)]
    simp only [splice, hx.len]
    exact ((h11.take _).append hx).append (h11.drop _)
end Ev
end Go.Proofs.Ytkjnaamlhkldmab
