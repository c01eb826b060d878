import Derived.Test.YtkjnaamlhkldmabEv4
namespace Go.Proofs.Ytkjnaamlhkldmab
namespace Ev
variable {P : Program} {μ : Mu} {A : AW} {w : World}

/-! built values -/
def lfill (place : Nat → Option (Nat × Nat)) : List Value → List (Nat × Value) → Option (List Value)
  | cs, [] => some cs
  | cs, (i, v) :: r => match place i with
    | none => none
    | some (off, size) => if (cellsL v).length = size ∧ off + (cellsL v).length ≤ cs.length then lfill place (splice cs off (cellsL v)) r else none
theorem cellsL_eq : ∀ v : Value, v.cells.toList = cellsL v
  | .agg _ => rfl
  | .bool _ | .int _ _ | .float _ _ | .complex _ _ _ | .string _ | .pointer _ | .slice _ _ _ | .map _ | .chan _ | .func _ _ _ | .nilFunc | .iface _ _ | .nilIface | .tuple _ => rfl
theorem fold_splice : ∀ (l : List Value) (off i : Nat) (cs : Array Value), off + i + l.length ≤ cs.size → (l.zipIdx i).foldl (fun (cs : Array Value) (x : Value × Nat) => cs.setIfInBounds (off + x.2) x.1) cs = (splice cs.toList (off + i) l).toArray
  | [], off, i, cs, _ => by simp [splice]
  | v :: r, off, i, cs, h => by
    simp only [List.length_cons] at h
    simp only [List.zipIdx_cons, List.foldl_cons]
    rw [fold_splice r off (i + 1) _ (by simp; omega), Array.toList_setIfInBounds, ← Nat.add_assoc, splice_step (by simp; omega)]
theorem fill_eq (place : Nat → Option (Nat × Nat)) : ∀ (ps : List (Nat × Value)) (cs : Array Value) (r : List Value), lfill place cs.toList ps = some r → Instr.fill place cs ps = some r.toArray
  | [], cs, r, h => by simp only [lfill] at h; cases h; simp [Instr.fill]
  | (i, v) :: ps, cs, r, h => by
    simp only [lfill] at h
    simp only [Instr.fill]
    split at h
    · cases h
    · rename_i off size hp
      rw [hp]
      split at h
      · rename_i hc
        obtain ⟨h1, h2⟩ := hc
        have hsz : v.cells.size = (cellsL v).length := by rw [← cellsL_eq]; simp
        have hn : (decide (v.cells.size ≠ size) || decide (off + v.cells.size > cs.size)) = false := by
          simp only [Bool.or_eq_false_iff, decide_eq_false_iff_not]
          simp only [Array.length_toList] at h2
          exact ⟨by omega, by omega⟩
        simp only [hn, Bool.false_eq_true, if_false]
        apply fill_eq place ps
        have e : (v.cells.zipIdx.foldl (fun cs (c, j) => cs.setIfInBounds (off + j) c) cs).toList = splice cs.toList off (cellsL v) := by
          rw [← Array.foldl_toList, Array.toList_zipIdx, cellsL_eq]
          have := fold_splice (cellsL v) off 0 cs (by simpa using h2)
          simp only [Nat.add_zero] at this
          exact congrArg Array.toList this
        rw [e]; exact h
      · cases h
def PR (μ : Mu) : List (Nat × Value) → List (Nat × Value) → Prop
  | [], l => l = []
  | (i, v) :: r, l => ∃ v' r', l = (i, v') :: r' ∧ VR μ v v' ∧ PR μ r r'
theorem lfill_rel (place : Nat → Option (Nat × Nat)) : ∀ {ps ps' : List (Nat × Value)} {cs cs' r : List Value}, PR μ ps ps' → LR μ cs cs' → lfill place cs ps = some r → ∃ r', lfill place cs' ps' = some r' ∧ LR μ r r'
  | [], ps', cs, cs', r, hp, hc, h => by
    simp only [PR] at hp; subst hp
    simp only [lfill] at h; cases h
    exact ⟨cs', rfl, hc⟩
  | (i, v) :: ps, ps', cs, cs', r, hp, hc, h => by
    simp only [PR] at hp
    obtain ⟨v', ps'', rfl, hv, hp⟩ := hp
    simp only [lfill] at h ⊢
    split at h
    · cases h
    · rename_i off size hpl
      have hL := cells_LR hv
      rw [cellsL_eq] at hL
      split at h
      · rename_i hcond
        obtain ⟨h1, h2⟩ := hcond
        rw [if_pos ⟨by rw [hL.len]; exact h1, by rw [hL.len, hc.len]; exact h2⟩]
        refine lfill_rel place hp ?_ h
        simp only [splice, hL.len]
        exact ((hc.take _).append hL).append (hc.drop _)
      · cases h
noncomputable def opps (l : Env) : List (Nat × Operand) → Option (List (Nat × Value))
  | [] => some []
  | (i, x) :: xs => match opv l x, opps l xs with
    | some v, some vs => some ((i, v) :: vs)
    | _, _ => none
theorem opps_ok {l : Env} {a : Act} (h : TR μ l a.tmps.toList) : ∀ {xs : List (Nat × Operand)} {vs : List (Nat × Value)}, opps l xs = some vs → PR μ vs (xs.map fun x => (x.1, a.eval x.2))
  | [], _, hx => by cases hx; simp [PR]
  | (i, x) :: xs, vs, hx => by
    simp only [opps] at hx
    split at hx
    · rename_i v us h1 h2
      cases hx
      simp only [PR, List.map_cons]
      exact ⟨_, _, rfl, opv_ok h h1, opps_ok h h2⟩
    · cases hx
def placesL (P : Program) : List Field → Option (List (Nat × Nat))
  | [] => some []
  | f :: fs => match P.info? f.type, placesL P fs with
    | some i, some r => some ((f.offset, i.size) :: r)
    | _, _ => none
theorem run_places : ∀ {fs : List Field} {r : List (Nat × Nat)}, placesL P fs = some r → (fs.mapM fun f => do pure (f.offset, ← sizeOf f.type) : Sem (List (Nat × Nat))).run P w = .ok r w
  | [], r, h => by simp only [placesL] at h; cases h; rfl
  | f :: fs, r, h => by
    simp only [placesL] at h
    split at h
    · rename_i i r' hi hr
      cases h
      have ih := run_places hr
      simp only [List.mapM_cons, Sem.run_bind, rS hi, Result.andThen, Sem.run_pure, ih]
    · cases h
theorem run_placesA {fs : Array Field} {r : List (Nat × Nat)} (h : placesL P fs.toList = some r) : (fs.mapM fun f => do pure (f.offset, ← sizeOf f.type) : Sem (Array (Nat × Nat))).run P w = .ok r.toArray w := by
  rw [Array.mapM_eq_mapM_toList]
  simp only [Sem.run_map, run_places h, Result.andThen]
noncomputable def aBuild (P : Program) (l : Env) (t : TypeId) (ps : List (Nat × Operand)) : Option Value :=
  match P.info? t, P.underlying t, opps l ps with
  | some i, some d, some vs => match i.zero with
    | some z => if flat z then
        match d with
        | .struct fields => match placesL P fields.toList with
          | some pl => match lfill (fun j => pl[j]?) (cellsL z) vs with
            | some cs => some (.agg ⟨cs⟩)
            | none => none
          | none => none
        | .array _ elem => match P.info? elem with
          | some ie => match lfill (fun j => some (j * ie.size, ie.size)) (cellsL z) vs with
            | some cs => some (.agg ⟨cs⟩)
            | none => none
          | none => none
        | _ => none
      else none
    | none => none
  | _, _, _ => none
theorem aBuild_ok {l : Env} {a : Act} {t : TypeId} {ps : Array (Nat × Operand)} {v : Value} (hl : TR μ l a.tmps.toList) (h : aBuild P l t ps.toList = some v) :
    ∃ v', (Instr.build t (ps.map fun (i, x) => (i, a.eval x))).run P w = .ok v' w ∧ VR μ v v' := by
  unfold aBuild at h
  split at h
  · rename_i i d vs hi hd hvs
    have hP := opps_ok hl hvs
    have eP : (ps.map fun (i, x) => (i, a.eval x)).toList = ps.toList.map fun x => (x.1, a.eval x.2) := by simp
    split at h
    · rename_i z hz
      split at h
      · rename_i hfz
        have hzz : LR μ (cellsL z) z.cells.toList := cells_LR (flat_VR hfz)
        split at h
        · rename_i fields
          split at h
          · rename_i pl hpl
            split at h
            · rename_i cs hcs
              cases h
              obtain ⟨r', h1, h2⟩ := lfill_rel _ hP hzz hcs
              have h3 := fill_eq _ _ _ _ h1
              refine ⟨.agg r'.toArray, ?_, by simp only [VR]; exact ⟨_, rfl, h2⟩⟩
              have e2 : (fun j : Nat => pl.toArray[j]?) = fun j : Nat => pl[j]? := by funext j; simp
              simp only [Instr.build, Sem.run_bind, rZ hi hz, Result.andThen, rU hd, run_placesA hpl, eP, e2, h3, Sem.run_pure]
            · cases h
          · cases h
        · rename_i n elem
          split at h
          · rename_i ie hie
            split at h
            · rename_i cs hcs
              cases h
              obtain ⟨r', h1, h2⟩ := lfill_rel _ hP hzz hcs
              have h3 := fill_eq _ _ _ _ h1
              refine ⟨.agg r'.toArray, ?_, by simp only [VR]; exact ⟨_, rfl, h2⟩⟩
              simp only [Instr.build, Sem.run_bind, rZ hi hz, Result.andThen, rU hd, rS hie, eP, h3, Sem.run_pure]
            · cases h
          · cases h
        · cases h
      · cases h
    · cases h
  · cases h
/-! rows of zeros -/
def reps : Nat → List Value → List Value
  | 0, _ => []
  | n + 1, z => z ++ reps n z
theorem reps_get (z : List Value) : ∀ (n i : Nat), i < n * z.length → (reps n z)[i]? = z[i % z.length]?
  | 0, i, h => by simp at h
  | n + 1, i, h => by
    simp only [reps]
    have hz : 0 < z.length := by
      rcases Nat.eq_zero_or_pos z.length with h0 | h0
      · rw [h0] at h; simp at h
      · exact h0
    rcases Nat.lt_or_ge i z.length with hi | hi
    · rw [List.getElem?_append_left hi, Nat.mod_eq_of_lt hi]
    · rw [List.getElem?_append_right hi, reps_get z n _ (by rw [Nat.add_mul] at h; omega)]
      congr 1
      rw [Nat.mod_eq_sub_mod hi]
theorem reps_len (z : List Value) : ∀ n, (reps n z).length = n * z.length
  | 0 => by simp [reps]
  | n + 1 => by simp [reps, reps_len z n, Nat.add_mul, Nat.add_comm]
theorem range_zero (z : Array Value) (n : Nat) : (Array.range (n * z.size)).map (fun i => z[i % z.size]!) = (reps n z.toList).toArray := by
  apply Array.ext_getElem?
  intro i
  simp only [Array.getElem?_map, Array.getElem?_range, List.getElem?_toArray]
  rcases Nat.lt_or_ge i (n * z.size) with h | h
  · have hz : 0 < z.size := by
      rcases Nat.eq_zero_or_pos z.size with h0 | h0
      · rw [h0] at h; simp at h
      · exact h0
    have hm := Nat.mod_lt i hz
    rw [reps_get z.toList n i (by simpa using h)]
    simp [h, hm]
  · rw [List.getElem?_eq_none (by rw [reps_len]; simpa using h)]
    simp; omega
theorem flatL_append : ∀ {a b : List Value}, flatL a = true → flatL b = true → flatL (a ++ b) = true
  | [], _, _, h => h
  | x :: a, b, h, h' => by
    simp only [flatL, Bool.and_eq_true, List.cons_append] at h ⊢
    exact ⟨h.1, flatL_append h.2 h'⟩
theorem flatL_reps {z : List Value} (h : flatL z = true) : ∀ n, flatL (reps n z) = true
  | 0 => rfl
  | n + 1 => flatL_append h (flatL_reps h n)
theorem flatL_cells {z : Value} (h : flat z = true) : flatL (cellsL z) = true := by
  cases z <;> first
    | (simp only [cellsL, flatL, Bool.and_eq_true]; exact ⟨h, trivial⟩)
    | (rename_i l; obtain ⟨l⟩ := l; simpa [flat, cellsL] using h)
noncomputable def aBuildSlice (P : Program) (A : AW) (l : Env) (t len : Nat) (ps : List (Nat × Operand)) : Option (Value × AW) :=
  match P.underlying t, opps l ps with
  | some (.slice elem), some vs => match P.info? elem with
    | some ie => match ie.zero with
      | some z => if flat z ∧ (cellsL z).length = ie.size ∧ len * ie.size ≤ 1000000 ∧ ie.size ≠ 0 ∧ len < unk then
          match lfill (fun i => some (i * ie.size, ie.size)) (reps len (cellsL z)) vs with
          | some cs => some (.slice (some ⟨A.next, 0, none⟩) len len, A.push (.cells cs elem false none ie.size))
          | none => none
        else none
      | none => none
    | none => none
  | _, _ => none
theorem aBuildSlice_ok {l : Env} {a : Act} {t len : Nat} {ps : Array (Nat × Operand)} {v : Value} {A' : AW} (W : WR μ A w) (hl : TR μ l a.tmps.toList) (h : aBuildSlice P A l t len ps.toList = some (v, A')) :
    ∃ μ' v' w', (Instr.buildSlice t len (ps.map fun (i, x) => (i, a.eval x))).run P w = .ok v' w' ∧ VR μ' v v' ∧ WR μ' A' w' ∧ Ext μ A w μ' A' w' := by
  unfold aBuildSlice at h
  split at h
  · rename_i elem vs hd hvs
    have hP := opps_ok hl hvs
    have eP : (ps.map fun (i, x) => (i, a.eval x)).toList = ps.toList.map fun x => (x.1, a.eval x.2) := by simp
    split at h
    · rename_i ie hie
      split at h
      · rename_i z hz
        split at h
        · rename_i hc
          obtain ⟨hfz, hzl, hlen, hne, hu⟩ := hc
          split at h
          · rename_i cs hcs
            cases h
            have hzz : LR μ (reps len (cellsL z)) (reps len (cellsL z)) := flatL_LR (flatL_reps (flatL_cells hfz) _)
            obtain ⟨r', h1, h2⟩ := lfill_rel _ hP hzz hcs
            have e1 : ∀ z0 : Array Value, (len * ie.size = 0 ∨ z0 = z.cells) → (Array.range (len * ie.size)).map (fun x => z0[x % z0.size]!) = (reps len (cellsL z)).toArray := by
              intro z0 hz0
              by_cases h0 : len * ie.size = 0
              · have : len = 0 := by
                  rcases Nat.mul_eq_zero.1 h0 with h5 | h5
                  · exact h5
                  · exact absurd h5 hne
                subst this
                simp [reps]
              · obtain rfl := hz0.resolve_left h0
                have := range_zero z.cells len
                rw [show z.cells.size = ie.size by rw [← hzl, ← cellsL_eq]; simp] at this ⊢
                rw [this, cellsL_eq]
            have h3 := fill_eq (fun i => some (i * ie.size, ie.size)) _ (reps len (cellsL z)).toArray _ h1
            obtain ⟨w', h4, h5, h6⟩ := new_row (P := P) (t := elem) (es := ie.size) W h2
            refine ⟨_, .slice (some ⟨w.heap.size, 0, none⟩) len len, w', ?_, ?_, h5, h6⟩
            · have hbig : ¬ len * ie.size > 2 ^ 24 := by omega
              unfold Instr.buildSlice
              simp only [Sem.run_bind, rU hd, rS hie, Result.andThen, hbig, if_false]
              by_cases h0 : len * ie.size = 0
              · rw [if_pos h0]
                simp only [Sem.run_bind, Sem.run_pure, Result.andThen]
                rw [e1 #[] (.inl h0), eP, h3]
                simp only [Sem.run_bind, h4, Result.andThen, Sem.run_pure]
              · rw [if_neg h0]
                simp only [Sem.run_bind, Sem.run_pure, Result.andThen, rZ hie hz]
                rw [e1 z.cells (.inr rfl), eP, h3]
                simp only [Sem.run_bind, h4, Result.andThen, Sem.run_pure]
            · simp only [VR]
              exact ⟨_, _, rfl, .inl ⟨by omega, rfl, AR_new (W.dom _ (Nat.le_refl _))⟩⟩
          · cases h
        · cases h
      · cases h
    · cases h
  · cases h
end Ev
end Go.Proofs.Ytkjnaamlhkldmab
