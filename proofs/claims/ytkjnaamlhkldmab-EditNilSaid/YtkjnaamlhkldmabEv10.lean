import Derived.Test.YtkjnaamlhkldmabEv9
namespace Go.Proofs.Ytkjnaamlhkldmab
namespace Ev
variable {P : Program} {μ : Mu} {A : AW} {w : World}

theorem MR.len : ∀ {es es' : List MapEntry}, MR μ es es' → es'.length = es.length
  | [], _, h => by simp only [MR] at h; subst h; rfl
  | e :: es, _, h => by simp only [MR] at h; obtain ⟨e', es', rfl, _, _, _, _, h⟩ := h; simp [h.len]
theorem MR.set : ∀ {es es' : List MapEntry} (m : Nat) {k : Value} {v v' : Value} {b : Nat}, MR μ es es' → flat k = true → VR μ v v' → MR μ (es.set m ⟨k, v, b⟩) (es'.set m ⟨k, v', b⟩)
  | [], _, _, _, _, _, _, h, _, _ => by simp only [MR] at h; subst h; simp [MR]
  | e :: es, _, m, k, v, v', b, h, hk, hv => by
    simp only [MR] at h
    obtain ⟨e', es', rfl, h1, h2, h3, h4, h5⟩ := h
    cases m with
    | zero => simp only [List.set_cons_zero, MR]; exact ⟨_, _, rfl, hk, rfl, rfl, hv, h5⟩
    | succ m => simp only [List.set_cons_succ, MR]; exact ⟨_, _, rfl, h1, h2, h3, h4, h5.set m hk hv⟩
theorem MR.snoc : ∀ {es es' : List MapEntry} {k : Value} {v v' : Value} {b : Nat}, MR μ es es' → flat k = true → VR μ v v' → MR μ (es ++ [⟨k, v, b⟩]) (es' ++ [⟨k, v', b⟩])
  | [], _, _, _, _, _, h, hk, hv => by simp only [MR] at h; subst h; simp only [List.nil_append, MR]; exact ⟨_, _, rfl, hk, rfl, rfl, hv, rfl⟩
  | e :: es, _, k, v, v', b, h, hk, hv => by
    simp only [MR] at h
    obtain ⟨e', es', rfl, h1, h2, h3, h4, h5⟩ := h
    simp only [List.cons_append, MR]
    exact ⟨_, _, rfl, h1, h2, h3, h4, h5.snoc hk hv⟩
def keyOK : TypeDesc → Bool
  | .int _ | .string | .bool => true
  | _ => false
theorem check_in {key n : Nat} {d : TypeDesc} {e : Bool} {v : Value} (h : P.underlying key = some d) (hd : keyOK d = true) : (Instr.checkKey e (n + 1) key v).run P w = .ok () w := by
  cases d <;> simp only [keyOK] at hd <;> first
    | (cases hd; done)
    | simp [Instr.checkKey, rU h]
theorem rCheck {key : Nat} {d : TypeDesc} {e : Bool} {v : Value} (h : P.underlying key = some d) (hd : keyOK d = true) : (Instr.checkKey e 10000 key v).run P w = .ok () w := check_in (n := 9999) h hd
theorem find_rel {d : TypeDesc} {k : Value} : ∀ {es es' : List MapEntry} {i : Nat} {r : Option (Nat × Value)}, MR μ es es' → Instr.findNow d k es i = some r →
    match r with
    | some (j, v) => ∃ m e e', j = i + m ∧ es[m]? = some e ∧ es'[m]? = some e' ∧ e'.born = e.born ∧ e'.key = e.key ∧ Instr.sameNow d k e.key = some true ∧ Instr.findNow d k es' i = some (some (j, e'.val)) ∧ VR μ v e'.val
    | none => Instr.findNow d k es' i = some none
  | [], es', i, r, h, hr => by
    simp only [MR] at h; subst h
    simp only [Instr.findNow] at hr; cases hr; rfl
  | e :: es, _, i, r, h, hr => by
    simp only [MR] at h
    obtain ⟨e', es', rfl, h1, h2, h3, h4, h5⟩ := h
    simp only [Instr.findNow] at hr ⊢
    rw [h2]
    split at hr
    · rename_i hs
      cases hr
      exact ⟨0, e, e', by simp, rfl, rfl, h3, h2, hs, rfl, h4⟩
    · rename_i hs
      have ih := find_rel h5 hr
      cases r with
      | none => exact ih
      | some x =>
        obtain ⟨m, f, f', g1, g2, g3, g4, g5, g6, g7, g8⟩ := ih
        exact ⟨m + 1, f, f', by omega, by simpa using g2, by simpa using g3, g4, g5, g6, g7, g8⟩
    · cases hr
theorem ba_beq (a b : ByteArray) : (a == b) = (a.data == b.data) := by cases a; cases b; rfl
theorem ba_eq {a b : ByteArray} (h : (a == b) = true) : a = b := by
  rw [ba_beq] at h
  have := eq_of_beq h
  cases a; cases b; simp_all
theorem ba_refl (a : ByteArray) : (a == a) = true := by rw [ba_beq]; simp
theorem same_key {d : TypeDesc} {k ek : Value} (h : Instr.sameNow d k ek = some true) : ek = k ∧ Instr.sameBits 10000 ek k = true := by
  unfold Instr.sameNow at h
  split at h
  · split at h
    · rename_i hk
      subst hk
      have : _ = _ := eq_of_beq (Option.some.inj h)
      subst this
      exact ⟨rfl, by simp [Instr.sameBits]⟩
    · cases h
  · have : _ = _ := ba_eq (Option.some.inj h)
    subst this
    exact ⟨rfl, by simp [Instr.sameBits, ba_refl]⟩
  · have : _ = _ := eq_of_beq (Option.some.inj h)
    subst this
    exact ⟨rfl, by simp [Instr.sameBits]⟩
  · cases h
noncomputable def mapOf (A : AW) : Value → Option (List MapEntry)
  | .map none => some []
  | .map (some r) => match A.get r with
    | some (.map es _) => some es
    | _ => none
  | _ => none
theorem run_mapOf {x x' : Value} {es : List MapEntry} (W : WR μ A w) (hx : VR μ x x') (h : mapOf A x = some es) : ∃ es' : Array MapEntry, MR μ es es'.toList ∧ (x' = .map none ∧ es' = #[] ∨ ∃ r clock, x' = .map (some r) ∧ w.heap[r]? = some (.map es' clock)) := by
  unfold mapOf at h
  split at h
  · cases h; simp only [VR] at hx; subst hx
    exact ⟨#[], by simp [MR], .inl ⟨rfl, rfl⟩⟩
  · rename_i r
    simp only [VR] at hx
    obtain ⟨l, rfl, hm⟩ := hx
    split at h
    · rename_i es0 clock hg
      cases h
      obtain ⟨o', h2, h3⟩ := W.has _ _ l hg hm
      obtain ⟨es', rfl, h4⟩ := h3
      exact ⟨es', h4, .inr ⟨l.b, clock, rfl, h2⟩⟩
    · cases h
  · cases h
theorem run_getMap {r clock : Nat} {es : Array MapEntry} (h : w.heap[r]? = some (.map es clock)) : (getObj r).run P w = .ok (.map es clock) w := by simp [getObj, Sem.run, h]
theorem run_setMap {r clock : Nat} {es : Array MapEntry} {o : Obj} (h : w.heap[r]? = some (.map es clock)) : (setObj r o).run P w = .ok () { w with heap := w.heap.setIfInBounds r o } := by simp [setObj, Sem.run, h]
noncomputable def aLookup (P : Program) (A : AW) (t : TypeId) (x k : Value) (ok : Bool) : Option Value :=
  match P.underlying t, mapOf A x with
  | some (.map key elem), some es => match P.underlying key, P.info? elem with
    | some d, some ie => match ie.zero with
      | some z => if keyOK d ∧ flat z ∧ flat k then
          match Instr.findNow d k es 0 with
          | some (some (_, v)) => some (if ok then .tuple ⟨[v, .bool true]⟩ else v)
          | some none => some (if ok then .tuple ⟨[z, .bool false]⟩ else z)
          | none => none
        else none
      | none => none
    | _, _ => none
  | _, _ => none
theorem aLookup_ok {t : TypeId} {x x' k k' v : Value} {ok : Bool} (W : WR μ A w) (hx : VR μ x x') (hk : VR μ k k') (h : aLookup P A t x k ok = some v) : ∃ v', (Instr.lookup t x' k' ok).run P w = .ok v' w ∧ VR μ v v' := by
  unfold aLookup at h
  split at h
  · rename_i key elem es hd hes
    split at h
    · rename_i d ie hkd hie
      split at h
      · rename_i z hz
        split at h
        · rename_i hc
          obtain ⟨hkk, hfz, hfk⟩ := hc
          have hke := flat_eq hfk hk
          subst hke
          obtain ⟨es', hM, hcase⟩ := run_mapOf W hx hes
          have key : ∀ v', (do
              Instr.checkKey es'.isEmpty 10000 key k'
              let (v, ok') ← match ← Instr.findKey key k' es'.toList with
                | some (_, v) => pure (v, true)
                | none => pure (← zeroValue elem, false)
              pure (if ok then .tuple #[v, .bool ok'] else v) : Sem Value).run P w = .ok v' w → (Instr.lookup t x' k' ok).run P w = .ok v' w := fun v' hv => by
            rcases hcase with ⟨rfl, rfl⟩ | ⟨r, clock, rfl, hr⟩
            · simp only [Instr.lookup, Sem.run_bind, rU hd, Result.andThen, Sem.run_pure] at hv ⊢
              exact hv
            · simp only [Instr.lookup, Sem.run_bind, rU hd, Result.andThen, Sem.run_pure, run_getMap hr] at hv ⊢
              exact hv
          split at h
          · rename_i j u hf
            cases h
            obtain ⟨m, e, e', g1, g2, g3, g4, g5, g6, g7, g8⟩ := find_rel hM hf
            refine ⟨if ok then .tuple #[e'.val, .bool true] else e'.val, key _ ?_, ?_⟩
            · simp [rCheck hkd hkk, Instr.findKey, rU hkd, g7]
            · cases ok
              · exact g8
              · simp only
                exact ⟨_, rfl, LR.cons g8 (LR.cons (by simp [VR]) LR.nil)⟩
          · rename_i hf
            cases h
            have g7 := find_rel hM hf
            refine ⟨if ok then .tuple #[z, .bool false] else z, key _ ?_, ?_⟩
            · simp only at g7
              simp [rCheck hkd hkk, Instr.findKey, rU hkd, g7, rZ hie hz]
            · cases ok
              · exact flat_VR hfz
              · simp only
                exact ⟨_, rfl, LR.cons (flat_VR hfz) (LR.cons (by simp [VR]) LR.nil)⟩
          · cases h
        · cases h
      · cases h
    · cases h
  · cases h
noncomputable def aUpdate (P : Program) (A : AW) (t : TypeId) (k v : Value) : Value → Option AW
  | .map (some r) => match P.underlying t, A.get r with
    | some (.map key _), some (.map es clock) => match P.underlying key with
      | some d => if keyOK d ∧ flat k then
          match Instr.findNow d k es 0 with
          | some (some (j, _)) => match es[j]? with
            | some e => some (A.set r (some (.map (es.set j ⟨k, v, e.born⟩) clock)))
            | none => none
          | some none => some (A.set r (some (.map (es ++ [⟨k, v, clock⟩]) (clock + 1))))
          | none => none
        else none
      | none => none
    | _, _ => none
  | _ => none
theorem aUpdate_ok {t : TypeId} {x x' k k' v v' : Value} {A' : AW} (W : WR μ A w) (hx : VR μ x x') (hk : VR μ k k') (hv : VR μ v v') (h : aUpdate P A t k v x = some A') :
    ∃ w', (Instr.mapUpdate t x' k' v').run P w = .ok () w' ∧ WR μ A' w' ∧ Ext μ A w μ A' w' := by
  unfold aUpdate at h
  split at h
  · rename_i r
    simp only [VR] at hx
    obtain ⟨l, rfl, hm⟩ := hx
    split at h
    · rename_i key elem es clock hd hg
      split at h
      · rename_i d hkd
        split at h
        · rename_i hc
          obtain ⟨hkk, hfk⟩ := hc
          have hke := flat_eq hfk hk
          subst hke
          obtain ⟨o', h2, h3⟩ := W.has _ _ l hg hm
          obtain ⟨es', rfl, hM⟩ := h3
          split at h
          · rename_i j u hf
            split at h
            · rename_i e he
              cases h
              obtain ⟨m, e1, e', g1, g2, g3, g4, g5, g6, g7, g8⟩ := find_rel hM hf
              simp only [Nat.zero_add] at g1
              subst g1
              rw [he] at g2; cases g2
              obtain ⟨hkey, hbits⟩ := same_key g6
              have ge : es'[j]? = some e' := by rw [← Array.getElem?_toList]; exact g3
              have hu := W.upd (o := .map (es.set j ⟨k', v, e.born⟩) clock) (o' := .map (es'.setIfInBounds j ⟨k', v', e.born⟩) clock) hg hm ⟨_, rfl, by rw [Array.toList_setIfInBounds]; exact hM.set j hfk hv⟩
              refine ⟨_, ?_, hu⟩
              have hmod : es'.modify j (fun e => { e with key := k', val := v' }) = es'.setIfInBounds j ⟨k', v', e.born⟩ := by
                apply Array.ext_getElem?
                intro i
                rw [Array.getElem?_modify, Array.getElem?_setIfInBounds]
                have hjl := (Array.getElem?_eq_some_iff.1 ge).1
                by_cases hi : j = i
                · subst hi; simp [hjl]
                  have := (Array.getElem?_eq_some_iff.1 ge).2
                  rw [this, g4]
                · simp [hi]
              have hks : (((es'[j]?).map (·.key)).getD k') = k' := by rw [ge]; simp [g5, hkey]
              rw [hkey] at hbits
              simp only [Instr.mapUpdate, Sem.run_bind, rU hd, Result.andThen, run_getMap h2, rCheck hkd hkk, Instr.findKey, rU hkd, g7, Sem.run_pure, Instr.keyThatStays, hks, hbits, if_true, hmod, run_setMap h2]
            · cases h
          · rename_i hf
            cases h
            have g7 := find_rel hM hf
            simp only at g7
            have hu := W.upd (o := .map (es ++ [⟨k', v, clock⟩]) (clock + 1)) (o' := .map (es'.push ⟨k', v', clock⟩) (clock + 1)) hg hm ⟨_, rfl, by rw [Array.toList_push]; exact hM.snoc hfk hv⟩
            refine ⟨_, ?_, hu⟩
            simp only [Instr.mapUpdate, Sem.run_bind, rU hd, Result.andThen, run_getMap h2, rCheck hkd hkk, Instr.findKey, rU hkd, g7, Sem.run_pure, run_setMap h2]
          · cases h
        · cases h
      · cases h
    · cases h
  · cases h
theorem aMakeMap_ok {t : TypeId} (W : WR μ A w) : ∃ μ' v' w', (Instr.makeMap t none).run P w = .ok v' w' ∧ VR μ' (.map (some A.next)) v' ∧ WR μ' (A.push (.map [] 0)) w' ∧ Ext μ A w μ' (A.push (.map [] 0)) w' := by
  have hn := W.new (d := 0) (sz := 0) (k := 0) (o := .map [] 0) (o' := .map #[] 0) ⟨#[], rfl, by simp [MR]⟩
  refine ⟨_, .map (some w.heap.size), _, by simp [Instr.makeMap], ?_, hn⟩
  simp only [VR]
  exact ⟨_, rfl, Mu.add_get (W.dom _ (Nat.le_refl _))⟩
theorem aMakeMapH_ok {t kt et : TypeId} {k : IntKind} {z : Int} (hd : P.underlying t = some (.map kt et)) (W : WR μ A w) : ∃ μ' v' w', (Instr.makeMap t (some (.int k z))).run P w = .ok v' w' ∧ VR μ' (.map (some A.next)) v' ∧ WR μ' (A.push (.map [] 0)) w' ∧ Ext μ A w μ' (A.push (.map [] 0)) w' := by
  have hn := W.new (d := 0) (sz := 0) (k := 0) (o := .map [] 0) (o' := .map #[] 0) ⟨#[], rfl, by simp [MR]⟩
  refine ⟨_, .map (some w.heap.size), _, by simp [Instr.makeMap, rU hd, asInt, asIntOf], ?_, hn⟩
  simp only [VR]
  exact ⟨_, rfl, Mu.add_get (W.dom _ (Nat.le_refl _))⟩
/-! len; make of slices -/
noncomputable def aLen (P : Program) (A : AW) (t : TypeId) (x : Value) : Option Value :=
  match P.underlying t, x with
  | some (.slice _), .slice _ n _ => some (goInt n)
  | some (.map _ _), x => match mapOf A x with
    | some es => some (goInt es.length)
    | none => none
  | _, _ => none
theorem aLen_ok {t ty : TypeId} {x x' v : Value} (W : WR μ A w) (hx : VR μ x x') (h : aLen P A t x = some v) : ∃ v', (Builtin.len_ #[t] ty #[x']).run P w = .ok v' w ∧ VR μ v v' := by
  unfold aLen at h
  split at h
  · rename_i e a n c hd
    cases h
    refine ⟨goInt n, ?_, by simp [goInt, VR]⟩
    cases a with
    | none => simp only [VR] at hx; subst hx; simp [Builtin.len_, rU hd]
    | some a => simp only [VR] at hx; obtain ⟨_, _, rfl, _⟩ := hx; simp [Builtin.len_, rU hd]
  · rename_i k e hd
    split at h
    · rename_i es hes
      cases h
      obtain ⟨es', hM, hcase⟩ := run_mapOf W hx hes
      have hlen := hM.len
      simp only [Array.length_toList] at hlen
      refine ⟨goInt es.length, ?_, by simp [goInt, VR]⟩
      rcases hcase with ⟨rfl, rfl⟩ | ⟨r, clock, rfl, hr⟩
      · simp at hlen
        simp [Builtin.len_, rU hd, ← hlen]
      · simp [Builtin.len_, rU hd, run_getMap hr, hlen]
    · cases h
  · cases h
noncomputable def aCap (P : Program) (t : TypeId) (x : Value) : Option Value :=
  match P.underlying t, x with
  | some (.slice _), .slice none _ c => some (goInt c)
  | some (.slice _), .slice (some _) _ c => if c = unk then none else some (goInt c)
  | _, _ => none
theorem aCap_ok {t ty : TypeId} {x x' v : Value} (hx : VR μ x x') (h : aCap P t x = some v) : ∃ v', (Builtin.cap_ #[t] ty #[x']).run P w = .ok v' w ∧ VR μ v v' := by
  unfold aCap at h
  split at h
  · rename_i e n c hd
    cases h
    simp only [VR] at hx
    subst hx
    exact ⟨goInt c, by simp [Builtin.cap_, rU hd], by simp [goInt, VR]⟩
  · rename_i e a n c hd
    split at h
    · cases h
    · rename_i hc
      cases h
      simp only [VR] at hx
      obtain ⟨a', c', rfl, hs⟩ := hx
      rcases hs with ⟨_, rfl, _⟩ | ⟨h1, _⟩
      · exact ⟨goInt c', by simp [Builtin.cap_, rU hd], by simp [goInt, VR]⟩
      · exact absurd h1 hc
  · cases h
noncomputable def aMakeSlice (P : Program) (A : AW) (t : TypeId) : Value → Value → Option (Value × AW)
  | .int _ l, .int _ c => match P.underlying t with
    | some (.slice elem) => match P.info? elem with
      | some ie => match ie.zero with
        | some z => if flat z ∧ (cellsL z).length = ie.size ∧ ie.size ≠ 0 ∧ ie.bytes ≤ 65536 ∧ 0 ≤ l ∧ l ≤ c ∧ c ≤ 100000 ∧ IntKind.i64.wrap l = l ∧ IntKind.i64.wrap c = c then
            some (.slice (some ⟨A.next, 0, none⟩) l.toNat c.toNat, A.push (.cells (reps c.toNat (cellsL z)) elem false none ie.size))
          else none
        | none => none
      | none => none
    | _ => none
  | _, _ => none
theorem aMakeSlice_ok {t : TypeId} {x x' y y' v : Value} {A' : AW} (W : WR μ A w) (hx : VR μ x x') (hy : VR μ y y') (h : aMakeSlice P A t x y = some (v, A')) :
    ∃ μ' v' w', (Instr.makeSlice t x' y').run P w = .ok v' w' ∧ VR μ' v v' ∧ WR μ' A' w' ∧ Ext μ A w μ' A' w' := by
  unfold aMakeSlice at h
  split at h
  · rename_i k1 l k2 c
    simp only [VR] at hx hy; subst hx hy
    split at h
    · rename_i elem hd
      split at h
      · rename_i ie hie
        split at h
        · rename_i z hz
          split at h
          · rename_i hc
            obtain ⟨hfz, hzl, hne, hb, h0, hlc, hc1, hwl, hwc⟩ := hc
            cases h
            have hzz : LR μ (reps c.toNat (cellsL z)) (reps c.toNat (cellsL z)) := flatL_LR (flatL_reps (flatL_cells hfz) _)
            obtain ⟨w', h4, h5, h6⟩ := new_row (P := P) (t := elem) (es := ie.size) W hzz
            have hmul : (ie.bytes : Int) * c ≤ 65536 * 100000 := by
              have h7 : (ie.bytes : Int) ≤ 65536 := by omega
              exact Int.mul_le_mul h7 hc1 (by omega) (by omega)
            have hml : (ie.bytes : Int) * l ≤ 65536 * 100000 := by
              have h7 : (ie.bytes : Int) ≤ 65536 := by omega
              exact Int.mul_le_mul h7 (by omega) h0 (by omega)
            have t1 : (decide (c < 0) || decide ((ie.bytes : Int) * c > 2 ^ 48)) = false := by
              simp only [Bool.or_eq_false_iff, decide_eq_false_iff_not]; omega
            have e1 : (Array.range (c.toNat * ie.size)).map (fun x => z.cells[x % z.cells.size]!) = (reps c.toNat (cellsL z)).toArray := by
              have := range_zero z.cells c.toNat
              rw [show z.cells.size = ie.size by rw [← hzl, ← cellsL_eq]; simp] at this ⊢
              rw [this, cellsL_eq]
            have e0 : (Array.range (c.toNat * ie.size)).map (fun x => (#[] : Array Value)[x % (#[] : Array Value).size]!) = (reps c.toNat (cellsL z)).toArray ∨ c.toNat * ie.size ≠ 0 := by
              by_cases hz0 : c.toNat * ie.size = 0
              · left
                have : c.toNat = 0 := by
                  rcases Nat.mul_eq_zero.1 hz0 with h8 | h8
                  · exact h8
                  · exact absurd h8 hne
                rw [this]; simp [reps]
              · exact .inr hz0
            refine ⟨_, .slice (some ⟨w.heap.size, 0, none⟩) l.toNat c.toNat, w', ?_, ?_, h5, h6⟩
            · unfold Instr.makeSlice
              have hl0 : ¬ l < 0 := by omega
              have hlc' : ¬ l > c := by omega
              simp only [Sem.run_bind, rU hd, Result.andThen, asInt, asIntOf, Sem.run_pure, rT hie, hwl, hwc, t1, Bool.false_or, hl0, hlc', decide_false, Bool.or_self, Bool.false_eq_true, if_false, run_askRoom, rS hie]
              by_cases hz0 : c.toNat * ie.size = 0
              · rw [if_pos hz0]
                simp only [Sem.run_bind, Sem.run_pure, Result.andThen]
                rw [e0.resolve_right (fun hh => hh hz0)]
                simp only [h4]
              · rw [if_neg hz0]
                simp only [Sem.run_bind, Sem.run_pure, Result.andThen, rZ hie hz]
                rw [e1]
                simp only [h4]
            · simp only [VR]
              refine ⟨_, _, rfl, .inl ⟨?_, rfl, AR_new (W.dom _ (Nat.le_refl _))⟩⟩
              unfold unk; omega
          · cases h
        · cases h
      · cases h
    · cases h
  · cases h
end Ev
end Go.Proofs.Ytkjnaamlhkldmab
