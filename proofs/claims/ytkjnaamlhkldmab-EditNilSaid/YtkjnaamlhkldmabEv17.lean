import Derived.Test.YtkjnaamlhkldmabEvM
namespace Go.Proofs.Ytkjnaamlhkldmab
namespace Ev
variable {P : Program}

abbrev Rc := Bool × Value × Env
noncomputable def dgo (P : Program) (call : CallT) (same : XT) (rd : Option Nat) (ops : Array Oper) (size : Nat) (ds : List ADef) : List Oper → Env → AW → Nat → Except String (List Rc × List AW × Env)
  | [], l, _, _ => .ok ([], [], l)
  | o :: r, l, A, e => if early o then fMask l (o.looksAt ops) fun m => match mkE P (o.looksAt ops) m o with
      | some (v0, _) => fV (rn e v0) fun v => fPutE ⟨l, size, ds⟩ o.dst v fun a' => fN (e + 1) fun e' => match dgo P call same rd ops size ds r a'.tmps A e' with
        | .ok (rs, Ms, lf) => .ok ((true, v, m) :: rs, Ms, lf)
        | .error s => .error s
      | none => .error ("draw: new " ++ o.pos)
    else fMask l (o.looksAt ops) fun m => match wantedE ops m o with
    | some true => if effB P o then
        match evOp1 P call same rd o ⟨m, size, ds⟩ A with
        | .ok (.val v, A') => fV v fun v => fPutE ⟨l, size, ds⟩ o.dst v fun a' => fW A' fun A' => match dgo P call same rd ops size ds r a'.tmps A' e with
          | .ok (rs, Ms, lf) => .ok ((true, v, m) :: rs, A' :: Ms, lf)
          | .error s => .error s
        | .ok _ => .error ("draw: " ++ o.pos)
        | .error s => .error s
      else match aOp P m o A with
        | some (v, _) => fV v fun v => fPutE ⟨l, size, ds⟩ o.dst v fun a' => match dgo P call same rd ops size ds r a'.tmps A e with
          | .ok (rs, Ms, lf) => .ok ((true, v, m) :: rs, Ms, lf)
          | .error s => .error s
        | none => .error ("draw op: " ++ o.pos)
    | some false => fPutE ⟨l, size, ds⟩ o.dst undef fun a' => match dgo P call same rd ops size ds r a'.tmps A e with
      | .ok (rs, Ms, lf) => .ok ((false, undef, m) :: rs, if effB P o then A :: Ms else Ms, lf)
      | .error s => .error s
    | none => .error ("draw guard: " ++ o.pos)
noncomputable def valOf (recs : List Rc) (i : Nat) : Value := match recs[i]? with
  | some (_, v, _) => v
  | none => undef
def Each (P : Program) (call : CallT) (same : XT) (rd : Option Nat) (ops : Array Oper) (size : Nat) (ds : List ADef) (l0 : Env) (recs : List Rc) (mems : List AW) (base i : Nat) (o : Oper) : Prop :=
  ∃ wt v m, recs[i]? = some (wt, v, m) ∧ wantedE ops m o = some wt ∧ (∀ t u, m.get t = some u → t ∈ o.looksAt ops ∧ tv ops (valOf recs) l0 (fun p => decide (p < i)) t = some u) ∧ (wt = false → v = undef) ∧
    (effB P o = true → ∃ A A', mems[cnt P ops i]? = some A ∧ mems[cnt P ops i + 1]? = some A' ∧ (wt = true → ∃ A1, evOp1 P call same rd o ⟨m, size, ds⟩ A = .ok (.val v, A1) ∧ A' = layW A1) ∧ (wt = false → A' = A)) ∧
    (effB P o = false → early o = false → wt = true → ∃ A A', mems[cnt P ops i]? = some A ∧ aOp P m o A = some (v, A')) ∧ (early o = true → ∃ v0 obj, mkE P (o.looksAt ops) m o = some (v0, obj) ∧ v = rn (base + ecnt ops i) v0)
theorem early_eff {o : Oper} (h : early o = true) : effB P o = false := by simp [effB, h]
theorem early_wanted {ops : Array Oper} {m : Env} {o : Oper} (P : Program) (h : early o = true) : wantedE ops m o = some true := by
  unfold wantedE
  rw [(early_op (P := P) h).2]
theorem put_tv {ops : Array Oper} {size i : Nat} {ds : List ADef} {l l0 : Env} {recs : List Rc} {v : Value} {o : Oper} (hk : OkD P ops size) (ho : ops[i]? = some o) (hl : ∀ t, l.get t = tv ops (valOf recs) l0 (fun p => decide (p < i)) t) (hv : valOf recs i = v) (t : Nat) :
    ((AA.mk l size ds).put o.dst v).tmps.get t = tv ops (valOf recs) l0 (fun p => decide (p < i + 1)) t := by
  have hdst : dstOf ops i = o.dst := by simp [dstOf, ho]
  have other : ∀ p, writer ops t = some p → p ≠ i → (decide (p < i + 1)) = decide (p < i) := fun p _ hp => by
    rw [decide_eq_decide]; omega
  have keep : (∀ d, o.dst = some d → t ≠ d) → tv ops (valOf recs) l0 (fun p => decide (p < i + 1)) t = l.get t := fun hne => by
    rw [hl t]
    unfold tv
    split
    · rename_i p hp
      have hpi : p ≠ i := fun e => by
        subst e
        have := writer_some hp
        rw [hdst] at this
        exact hne t this rfl
      simp only [other p hp hpi]
    · rfl
  cases hd : o.dst with
  | none => simp only [AA.put]; rw [keep (fun d h => by rw [hd] at h; cases h)]
  | some d =>
    have hsm := hk.small i d (by rw [hdst, hd])
    have hb : Nat.ble (Nat.succ d) size = true := Nat.ble_eq_true_of_le hsm
    simp only [AA.put, hb, if_true]
    rw [Tr.get_put _ _ _ _ _ (by omega)]
    by_cases e : t = d
    · subst e
      rw [if_pos rfl]
      have := writer_of hk (show dstOf ops i = some t by rw [hdst, hd])
      unfold tv
      rw [this]
      simp [hv]
    · rw [if_neg e, keep (fun d' h => by rw [hd] at h; cases h; exact e)]
theorem drop_head {α : Type} {l r : List α} {x : α} {i : Nat} (h : l.drop i = x :: r) : l[i]? = some x ∧ l.drop (i + 1) = r := by
  constructor
  · have := congrArg (fun l => l[0]?) h
    simpa using this
  · rw [← List.drop_drop, h]; rfl
theorem dgo_spec {call : CallT} {same : XT} {rd : Option Nat} {ops : Array Oper} {size base : Nat} {ds : List ADef} {l0 : Env} (hk : OkD P ops size) {recs : List Rc} {mems : List AW} : ∀ (os : List Oper) (i : Nat) (l : Env) (A : AW) (e : Nat) (rs : List Rc) (Ms : List AW) (lf : Env), e = base + ecnt ops i →
    ops.toList.drop i = os → dgo P call same rd ops size ds os l A e = .ok (rs, Ms, lf) → recs.drop i = rs → mems.drop (cnt P ops i) = A :: Ms → (∀ t, l.get t = tv ops (valOf recs) l0 (fun p => decide (p < i)) t) →
    (∀ q o, i ≤ q → ops[q]? = some o → Each P call same rd ops size ds l0 recs mems base q o) ∧ (∀ t, lf.get t = tv ops (valOf recs) l0 (fun p => decide (p < i + os.length)) t) ∧ Ms.length + cnt P ops i = cnt P ops (i + os.length)
  | [], i, l, A, e, rs, Ms, lf, hee, hos, h, hrs, hms, hl => by
    simp only [dgo] at h; cases h
    refine ⟨fun q o hq ho => ?_, fun t => by simpa using hl t, by simp⟩
    have h1 : ops.toList.length ≤ i := List.drop_eq_nil_iff.1 hos
    have h2 := (Array.getElem?_eq_some_iff.1 ho).1
    simp at h1
    omega
  | o :: r, i, l, A, e, rs, Ms, lf, hee, hos, h, hrs, hms, hl => by
    obtain ⟨ho', hor⟩ := drop_head hos
    have ho : ops[i]? = some o := by rw [← Array.getElem?_toList]; exact ho'
    have hmem := (drop_head hms).1
    have heff : isEff P ops i = effB P o := by simp [isEff, ho]
    have hmask : ∀ t u, (maskE l (o.looksAt ops)).get t = some u → t ∈ o.looksAt ops ∧ tv ops (valOf recs) l0 (fun p => decide (p < i)) t = some u := fun t u hu => by
      obtain ⟨h1, h2⟩ := mask_get hu
      exact ⟨h1, by rw [← hl t]; exact h2⟩
    have hisy : isEarly ops i = early o := by simp [isEarly, ho]
    have finish : ∀ (wt : Bool) (v : Value) (A1 : AW) (e1 : Nat) (rs1 : List Rc) (Ms1 : List AW), e1 = base + ecnt ops (i + 1) → rs = (wt, v, maskE l (o.looksAt ops)) :: rs1 → dgo P call same rd ops size ds r ((AA.mk l size ds).put o.dst v).tmps A1 e1 = .ok (rs1, Ms1, lf) → (mems.drop (cnt P ops (i + 1)) = A1 :: Ms1) → (Ms.length + cnt P ops i = Ms1.length + cnt P ops (i + 1)) →
        (recs[i]? = some (wt, v, maskE l (o.looksAt ops)) → Each P call same rd ops size ds l0 recs mems base i o) →
        (∀ q o, i ≤ q → ops[q]? = some o → Each P call same rd ops size ds l0 recs mems base q o) ∧ (∀ t, lf.get t = tv ops (valOf recs) l0 (fun p => decide (p < i + (o :: r).length)) t) ∧ Ms.length + cnt P ops i = cnt P ops (i + (o :: r).length) := by
      intro wt v A1 e1 rs1 Ms1 he1 hr hd hm hlen hE
      rw [hr] at hrs
      obtain ⟨hri, hrr⟩ := drop_head hrs
      have hv : valOf recs i = v := by simp [valOf, hri]
      obtain ⟨g1, g2, g3⟩ := dgo_spec hk r (i + 1) _ A1 e1 rs1 Ms1 lf he1 hor hd hrr hm (put_tv hk ho hl hv)
      refine ⟨fun q o' hq hq' => ?_, fun t => ?_, ?_⟩
      · by_cases eq : q = i
        · subst eq
          rw [ho] at hq'; cases hq'
          exact hE hri
        · exact g1 q o' (by omega) hq'
      · rw [g2 t, show i + 1 + r.length = i + (o :: r).length by simp only [List.length_cons]; omega]
      · rw [show i + 1 + r.length = i + (o :: r).length by simp only [List.length_cons]; omega] at g3
        omega
    unfold dgo at h
    by_cases hey : early o = true
    · rw [if_pos hey, fMask_eq] at h
      split at h
      · rename_i v0 obj hmk
        rw [fV_eq, fPutE_eq, fN_eq] at h
        split at h
        · rename_i rs1 Ms1 lf1 h2
          cases h
          have hc : cnt P ops (i + 1) = cnt P ops i := by simp [cnt, heff, early_eff (P := P) hey]
          refine finish true _ A (e + 1) rs1 Ms (by simp only [ecnt, hisy, hey, if_true]; omega) rfl h2 (by rw [hc]; exact hms) (by rw [hc]) fun hri => ?_
          exact ⟨true, _, _, hri, early_wanted P hey, hmask, fun hh => (by cases hh), fun hh => (by rw [early_eff hey] at hh; cases hh), fun _ hh => (by rw [hey] at hh; cases hh), fun _ => ⟨v0, obj, hmk, by rw [hee]⟩⟩
        · cases h
      · cases h
    have hey' : early o = false := by simpa using hey
    have hen : e = base + ecnt ops (i + 1) := by simp only [ecnt, hisy, hey']; exact hee
    rw [if_neg hey, fMask_eq] at h
    split at h
    · rename_i hw
      split at h
      · rename_i he
        split at h
        · rename_i v A1 h1
          rw [fV_eq, fPutE_eq, fW_eq] at h
          split at h
          · rename_i rs1 Ms1 lf1 h2
            cases h
            have hc : cnt P ops (i + 1) = cnt P ops i + 1 := by simp [cnt, heff, he]
            have hms2 : mems.drop (cnt P ops i + 1) = layW A1 :: Ms1 := (drop_head hms).2
            refine finish true v (layW A1) e rs1 Ms1 hen rfl h2 (by rw [hc]; exact hms2) (by simp only [List.length_cons]; omega) fun hri => ?_
            refine ⟨true, v, _, hri, hw, hmask, fun hh => (by cases hh), fun _ => ⟨A, layW A1, hmem, (drop_head hms2).1, fun _ => ⟨A1, h1, rfl⟩, fun hh => (by cases hh)⟩, fun hh => (by rw [he] at hh; cases hh), fun hh => (by rw [hey'] at hh; cases hh)⟩
          · cases h
        · cases h
        · cases h
      · rename_i he
        have he' : effB P o = false := by simpa using he
        split at h
        · rename_i v A1 h1
          rw [fV_eq, fPutE_eq] at h
          split at h
          · rename_i rs1 Ms1 lf1 h2
            cases h
            have hc : cnt P ops (i + 1) = cnt P ops i := by simp [cnt, heff, he']
            refine finish true v A e rs1 Ms hen rfl h2 (by rw [hc]; exact hms) (by rw [hc]) fun hri => ?_
            refine ⟨true, v, _, hri, hw, hmask, fun hh => (by cases hh), fun hh => (by rw [he'] at hh; cases hh), fun _ _ _ => ⟨A, A1, hmem, h1⟩, fun hh => (by rw [hey'] at hh; cases hh)⟩
          · cases h
        · cases h
    · rename_i hw
      rw [fPutE_eq] at h
      split at h
      · rename_i rs1 Ms1 lf1 h2
        cases h
        by_cases he : effB P o = true
        · have hc : cnt P ops (i + 1) = cnt P ops i + 1 := by simp [cnt, heff, he]
          rw [if_pos he] at hms
          have hms2 : mems.drop (cnt P ops i + 1) = A :: Ms1 := (drop_head hms).2
          have := finish false undef A e rs1 Ms1 hen rfl h2 (by rw [hc]; exact hms2) (by rw [if_pos he]; simp only [List.length_cons]; omega) fun hri =>
            ⟨false, undef, _, hri, hw, hmask, fun _ => rfl, fun _ => ⟨A, A, hmem, (drop_head hms2).1, fun hh => (by cases hh), fun _ => rfl⟩, fun hh => (by rw [he] at hh; cases hh), fun hh => (by rw [hey'] at hh; cases hh)⟩
          exact this
        · have he' : effB P o = false := by simpa using he
          have hc : cnt P ops (i + 1) = cnt P ops i := by simp [cnt, heff, he']
          rw [if_neg he] at hms
          have := finish false undef A e rs1 Ms1 hen rfl h2 (by rw [hc]; exact hms) (by rw [if_neg he, hc]) fun hri =>
            ⟨false, undef, _, hri, hw, hmask, fun _ => rfl, fun hh => (by rw [he'] at hh; cases hh), fun _ _ hh => (by cases hh), fun hh => (by rw [hey'] at hh; cases hh)⟩
          exact this
      · cases h
    · cases h
noncomputable def freshB (P : Program) (ops : Array Oper) (o : Oper) (m : Env) (v : Value) (A : AW) : Bool := match mkE P (o.looksAt ops) m o with
  | some (_, obj) => (match A.get (idOf v) with
    | some obj' => objEq obj' obj
    | none => false)
  | none => false
/-- Those that look at memory find the same at every time at which they may come. -/
noncomputable def chkL (P : Program) (ops : Array Oper) (mems : List AW) : List Oper → Nat → List Rc → Bool
  | o :: r, i, (wt, v, m) :: rs => (if wt && looks P o.op then (List.range mems.length).all fun j => !possB P ops i j || (match mems[j]? with
      | some A => (match aOp P m o A with
        | some (v', _) => veq v' v
        | none => false)
      | none => false) else if early o then (List.range mems.length).all fun j => !possB P ops i j || (match mems[j]? with
      | some A => freshB P ops o m v A
      | none => false) else true) && chkL P ops mems r (i + 1) rs
  | _, _, _ => true
theorem chkL_spec {ops : Array Oper} {mems : List AW} {recs : List Rc} : ∀ (os : List Oper) (i : Nat) (rs : List Rc), ops.toList.drop i = os → recs.drop i = rs → chkL P ops mems os i rs = true → ∀ q o wt v m, i ≤ q → ops[q]? = some o → recs[q]? = some (wt, v, m) → wt = true → looks P o.op = true →
    ∀ j A, possB P ops q j = true → mems[j]? = some A → ∃ A', aOp P m o A = some (v, A')
  | [], i, rs, hos, hrs, h, q, o, wt, v, m, hq, ho, hr, hwt, hlk, j, A, hj, hA => by
    have h1 : ops.toList.length ≤ i := List.drop_eq_nil_iff.1 hos
    have h2 := (Array.getElem?_eq_some_iff.1 ho).1
    simp at h1
    omega
  | o' :: r, i, [], hos, hrs, h, q, o, wt, v, m, hq, ho, hr, hwt, hlk, j, A, hj, hA => by
    have h1 : recs.length ≤ i := List.drop_eq_nil_iff.1 hrs
    have h2 := (List.getElem?_eq_some_iff.1 hr).1
    omega
  | o' :: r, i, (wt', v', m') :: rs, hos, hrs, h, q, o, wt, v, m, hq, ho, hr, hwt, hlk, j, A, hj, hA => by
    simp only [chkL, Bool.and_eq_true] at h
    obtain ⟨ho', hor⟩ := drop_head hos
    obtain ⟨hr', hrr⟩ := drop_head hrs
    by_cases e : q = i
    · subst e
      rw [hr] at hr'; cases hr'
      have : ops[q]? = some o' := by rw [← Array.getElem?_toList]; exact ho'
      rw [ho] at this; cases this
      subst hwt
      have h1 := h.1
      rw [hlk] at h1
      have hjl := (List.getElem?_eq_some_iff.1 hA).1
      have h2 := List.all_eq_true.1 (show (List.range mems.length).all _ = true from h1) j (List.mem_range.2 hjl)
      rw [hj, hA] at h2
      simp only [Bool.not_true, Bool.false_or] at h2
      split at h2
      · rename_i v'' A' h3
        rw [veq_eq h2] at h3
        exact ⟨A', h3⟩
      · cases h2
    · exact chkL_spec r (i + 1) rs hor hrr h.2 q o wt v m (by omega) ho hr hwt hlk j A hj hA
theorem looks_not_early {o : Oper} (h : early o = true) : looks P o.op = false := (early_op h).1
theorem chkL_early {ops : Array Oper} {mems : List AW} {recs : List Rc} : ∀ (os : List Oper) (i : Nat) (rs : List Rc), ops.toList.drop i = os → recs.drop i = rs → chkL P ops mems os i rs = true → ∀ q o wt v m, i ≤ q → ops[q]? = some o → recs[q]? = some (wt, v, m) → early o = true →
    ∀ j A, possB P ops q j = true → mems[j]? = some A → freshB P ops o m v A = true
  | [], i, rs, hos, hrs, h, q, o, wt, v, m, hq, ho, hr, hlk, j, A, hj, hA => by
    have h1 : ops.toList.length ≤ i := List.drop_eq_nil_iff.1 hos
    have h2 := (Array.getElem?_eq_some_iff.1 ho).1
    simp at h1
    omega
  | o' :: r, i, [], hos, hrs, h, q, o, wt, v, m, hq, ho, hr, hlk, j, A, hj, hA => by
    have h1 : recs.length ≤ i := List.drop_eq_nil_iff.1 hrs
    have h2 := (List.getElem?_eq_some_iff.1 hr).1
    omega
  | o' :: r, i, (wt', v', m') :: rs, hos, hrs, h, q, o, wt, v, m, hq, ho, hr, hlk, j, A, hj, hA => by
    simp only [chkL, Bool.and_eq_true] at h
    obtain ⟨ho', hor⟩ := drop_head hos
    obtain ⟨hr', hrr⟩ := drop_head hrs
    by_cases e : q = i
    · subst e
      rw [hr] at hr'; cases hr'
      have : ops[q]? = some o' := by rw [← Array.getElem?_toList]; exact ho'
      rw [ho] at this; cases this
      have h1 := h.1
      rw [looks_not_early (P := P) hlk] at h1
      simp only [Bool.false_eq_true, if_false, hlk, if_true, and_false] at h1
      have hjl := (List.getElem?_eq_some_iff.1 hA).1
      have h2 := List.all_eq_true.1 h1 j (List.mem_range.2 hjl)
      rw [hj, hA] at h2
      simpa using h2
    · exact chkL_early r (i + 1) rs hor hrr h.2 q o wt v m (by omega) ho hr hlk j A hj hA
end Ev
end Go.Proofs.Ytkjnaamlhkldmab
