import Derived.Test.YtkjnaamlhkldmabEv17
import Derived.OrdersIn
namespace Go.Proofs.Ytkjnaamlhkldmab
namespace Ev
variable {P : Program}

def lastOr (A : AW) : List AW → AW
  | [] => A
  | B :: r => lastOr B r
theorem lastOr_get : ∀ (A : AW) (Ms : List AW), (A :: Ms)[Ms.length]? = some (lastOr A Ms)
  | A, [] => rfl
  | A, B :: r => by
    simp only [List.length_cons, List.getElem?_cons_succ, lastOr]
    exact lastOr_get B r
/-! rows that are made whatever was done before: all are thought made when the region begins; the memory holds each from the time at which it is made -/
noncomputable def preA (P : Program) (ops : Array Oper) (size : Nat) : List Oper → Env → AW → AW → Option AW
  | [], _, _, B => some B
  | o :: r, l, A, B => if early o then fMask l (o.looksAt ops) fun m => match mkE P (o.looksAt ops) m o with
      | some (v0, obj) => fPutE ⟨l, size, []⟩ o.dst (rn B.next v0) fun a' => preA P ops size r a'.tmps A (B.push obj)
      | none => none
    else if effB P o then preA P ops size r l A B
    else match aOp P l o A with
      | some (v, _) => fV v fun v => fPutE ⟨l, size, []⟩ o.dst v fun a' => preA P ops size r a'.tmps A B
      | none => preA P ops size r l A B
theorem WR.later {μ : Mu} {A : AW} {w : World} (W : WR μ A w) (o : AObj) : WR μ (A.push o) w ∧ Ext μ A w μ (A.push o) w := by
  have get' : ∀ j oj l, (A.push o).get j = some oj → μ j = some l → A.get j = some oj := fun j oj l hj hl => by
    rw [AW.get_push] at hj
    split at hj
    · rename_i e; subst e; rw [W.dom _ (Nat.le_refl _)] at hl; cases hl
    · exact hj
  refine ⟨⟨fun j oj l hj hl => W.has j oj l (get' j oj l hj hl) hl, fun i j oi oj li lj hi hj h1 h2 => W.inj i j oi oj li lj (get' _ _ _ hi h1) (get' _ _ _ hj h2) h1 h2, fun i hi => W.dom i (by simp only [AW.push] at hi; omega)⟩,
    ⟨Le.refl _, Nat.le_refl _, rfl, rfl, rfl, fun _ _ _ => rfl, fun j oj l hj hl => .inr ⟨j, oj, l, get' _ _ _ hj hl, hl, rfl⟩, by simp [AW.push], fun _ _ => rfl⟩⟩
theorem preA_ok {μ : Mu} {w : World} {ops : Array Oper} {size : Nat} : ∀ (os : List Oper) (i : Nat) (l : Env) (A B B' : AW), ops.toList.drop i = os → preA P ops size os l A B = some B' → WR μ B w → WR μ B' w ∧ Ext μ B w μ B' w ∧ B'.next + ecnt ops i = B.next + ecnt ops (i + os.length)
  | [], i, l, A, B, B', _, h, W => by
    simp only [preA] at h; cases h
    exact ⟨W, Ext.refl, by simp⟩
  | o :: r, i, l, A, B, B', hos, h, W => by
    obtain ⟨ho', hor⟩ := drop_head hos
    have ho : ops[i]? = some o := by rw [← Array.getElem?_toList]; exact ho'
    have hisy : isEarly ops i = early o := by simp [isEarly, ho]
    have hlen : i + (o :: r).length = i + 1 + r.length := by simp only [List.length_cons]; omega
    simp only [preA] at h
    split at h
    · rename_i he
      rw [fMask_eq] at h
      split at h
      · rename_i v0 obj hmk
        rw [fPutE_eq] at h
        obtain ⟨W1, E1⟩ := W.later obj
        obtain ⟨h1, h2, h3⟩ := preA_ok r (i + 1) _ _ _ B' hor h W1
        refine ⟨h1, E1.trans h2, ?_⟩
        rw [hlen]
        have : ecnt ops (i + 1) = ecnt ops i + 1 := by simp [ecnt, hisy, he]
        simp only [AW.push] at h3
        omega
      · cases h
    · rename_i he
      have hsame : ecnt ops (i + 1) = ecnt ops i := by simp [ecnt, hisy, he]
      have go : ∀ l, preA P ops size r l A B = some B' → WR μ B' w ∧ Ext μ B w μ B' w ∧ B'.next + ecnt ops i = B.next + ecnt ops (i + (o :: r).length) := fun l h => by
        obtain ⟨h1, h2, h3⟩ := preA_ok r (i + 1) l A B B' hor h W
        refine ⟨h1, h2, ?_⟩
        rw [hlen]
        omega
      split at h
      · exact go _ h
      · split at h
        · rw [fV_eq, fPutE_eq] at h
          exact go _ h
        · exact go _ h
theorem ecnt_none {ops : Array Oper} : ∀ (os : List Oper) (i : Nat), ops.toList.drop i = os → os.any early = false → ecnt ops (i + os.length) = ecnt ops i
  | [], i, _, _ => by simp
  | o :: r, i, hos, h => by
    obtain ⟨ho', hor⟩ := drop_head hos
    have ho : ops[i]? = some o := by rw [← Array.getElem?_toList]; exact ho'
    simp only [List.any_cons, Bool.or_eq_false_iff] at h
    have h1 := ecnt_none r (i + 1) hor h.2
    have hsame : ecnt ops (i + 1) = ecnt ops i := by simp [ecnt, isEarly, ho, h.1]
    rw [show i + (o :: r).length = i + 1 + r.length by simp only [List.length_cons]; omega, h1, hsame]
def mu0 : Mu := ⟨fun g => (gloc g).map fun s => ⟨g, 0, s.1, s.2⟩, fun g s h => by rw [h]; rfl⟩
theorem A00_get (i : Nat) : A00.get i = none := rfl
theorem WR00 (w : World) : WR mu0 A00 w :=
  ⟨fun i o l h => (by rw [A00_get] at h; cases h), fun i j oi oj li lj h => (by rw [A00_get] at h; cases h), fun i hi => by
    show (gloc i).map (fun s => (⟨i, 0, s.1, s.2⟩ : Loc)) = none
    cases hg : gloc i with
    | none => rfl
    | some s => exact absurd (gloc_lt hg) (Nat.not_lt.2 hi)⟩
theorem OR_flat {μ μ' : Mu} {l : Loc} {obj : AObj} {o' : Obj} (hf : flatO obj = true) (h : OR μ l obj o') : OR μ' l obj o' := by
  unfold flatO at hf
  split at hf
  · obtain ⟨c, fr, h1, h2, h3, h4, h5, h6, h7⟩ := h
    have h8 := flatL_eq hf h6
    exact ⟨c, fr, h1, h2, h3, h4, h5, by rw [h8]; exact flatL_LR hf, h7⟩
  · obtain ⟨es, h1, h2⟩ := h
    simp only [MR] at h2
    exact ⟨es, h1, by simp only [MR]; exact h2⟩
  · cases hf
theorem maker_late {μ : Mu} {A : AW} {w : World} {o : Oper} {a : Act} {m : Env} {ts : List Nat} {v0 : Value} {obj : AObj} {id : Nat} (W : WR μ A w) (hTR : TR μ m a.tmps.toList) (hts : ∀ t u, m.get t = some u → t ∈ ts) (hmk : mkE P ts m o = some (v0, obj)) (hg : A.get id = some obj) (hd : μ id = none) (hid : id < A.next) :
    ∃ p' w' l, Res P a.eval o w p' w' ∧ VR (μ.add id l) (rn id v0) p' ∧ WR (μ.add id l) A w' ∧ (∀ μ0 A0 w0, A0.next ≤ id → Ext μ0 A0 w0 μ A w → Ext μ0 A0 w0 (μ.add id l) A w') := by
  unfold mkE at hmk
  split at hmk
  · rename_i hfl
    split at hmk
    · rename_i v A1 hop
      split at hmk
      · rename_i hnew
        split at hmk
        · rename_i ob hob
          split at hmk
          · rename_i hfo
            cases hmk
            have hT0 : TR mu0 m a.tmps.toList := fun t u hu => by
              obtain ⟨v', h1, h2⟩ := hTR t u hu
              have h3 := List.all_eq_true.1 hfl t (hts t u hu)
              rw [hu] at h3
              have h4 := flat_eq h3 h2
              subst h4
              exact ⟨_, h1, flat_VR h3⟩
            obtain ⟨μ1, p', w', hres, hv, W1, E1⟩ := aOp_ok (WR00 w) hT0 hop
            have hl : ∃ l, μ1 ng = some l ∧ ∀ μ2 : Mu, μ2 id = some l → VR μ2 (rn id v0) p' := by
              unfold isNew at hnew
              split at hnew
              · have e := beqN hnew
                subst e
                simp only [VR] at hv
                obtain ⟨a', rfl, _, l, h1, rfl⟩ := hv
                exact ⟨l, h1, fun μ2 h2 => by simp only [rn, VR]; exact ⟨_, rfl, rfl, l, h2, rfl⟩⟩
              · have e := beqN hnew
                subst e
                simp only [VR] at hv
                obtain ⟨l, rfl, h1⟩ := hv
                exact ⟨l, h1, fun μ2 h2 => by simp only [rn, VR]; exact ⟨l, rfl, h2⟩⟩
              · rw [Bool.and_eq_true] at hnew
                have e := beqN hnew.1
                subst e
                have hc := Nat.le_of_ble_eq_true hnew.2
                simp only [VR] at hv
                obtain ⟨a', c', rfl, hS⟩ := hv
                rcases hS with ⟨h1, h2, _, l, h3, h4⟩ | ⟨h1, _⟩
                · exact ⟨l, h3, fun μ2 h5 => by simp only [rn, VR]; exact ⟨_, _, rfl, .inl ⟨h1, h2, rfl, l, h5, h4⟩⟩⟩
                · omega
              · cases hnew
            obtain ⟨l, hl1, hl2⟩ := hl
            have hstay : ∀ b, b < w.heap.size → w'.heap[b]? = w.heap[b]? := fun b hb => E1.stay b hb fun i o l h => (by rw [A00_get] at h; cases h)
            have hbig : w.heap.size ≤ l.b := by
              rcases E1.img ng _ l hob hl1 with h | ⟨j, oj, lj, h, _⟩
              · exact h
              · rw [A00_get] at h; cases h
            obtain ⟨o', ho1, ho2⟩ := W1.has ng _ l hob hl1
            have hle : Le μ (μ.add id l) := Mu.add_le hd
            refine ⟨p', w', l, hres, hl2 _ (Mu.add_get hd), ⟨fun j oj lj hj h1 => ?_, fun j m oj om lj lm hj hl h1 h2 h3 => ?_, fun j hj => ?_⟩, fun μ0 A0 w0 hb E => ⟨E.le.trans hle, Nat.le_trans E.size E1.size, E1.tape.trans E.tape, E1.os.trans E.os, E1.output.trans E.output, fun b hb' hn => ?_, fun j oj lj hj h1 => ?_, E.next, fun j hj => ?_⟩⟩
            · by_cases ej : j = id
              · subst ej
                rw [Mu.add_get hd] at h1; cases h1
                rw [hg] at hj; cases hj
                exact ⟨o', ho1, OR_flat hfo ho2⟩
              · rw [Mu.add_ne ej] at h1
                obtain ⟨o1, h2, h3⟩ := W.has j oj lj hj h1
                exact ⟨o1, by rw [hstay _ (W.lt hj h1)]; exact h2, h3.mono hle⟩
            · by_cases ej : j = id
              · by_cases em : m = id
                · rw [ej, em]
                · subst ej
                  rw [Mu.add_get hd] at h1; cases h1
                  rw [Mu.add_ne em] at h2
                  have := W.lt hl h2
                  omega
              · rw [Mu.add_ne ej] at h1
                by_cases em : m = id
                · subst em
                  rw [Mu.add_get hd] at h2; cases h2
                  have := W.lt hj h1
                  omega
                · rw [Mu.add_ne em] at h2
                  exact W.inj j m oj om lj lm hj hl h1 h2 h3
            · rw [Mu.add_ne (by omega)]
              exact W.dom j hj
            · have hs := E.size
              rw [← E.stay b hb' hn]
              exact hstay b (by omega)
            · by_cases ej : j = id
              · subst ej
                rw [Mu.add_get hd] at h1; cases h1
                exact .inl (Nat.le_trans E.size hbig)
              · rw [Mu.add_ne ej] at h1
                exact E.img j oj lj hj h1
            · rw [Mu.add_ne (by omega)]
              exact E.keep j hj
          · cases hmk
        · cases hmk
      · cases hmk
    · cases hmk
  · cases hmk
noncomputable def evDraw (P : Program) (same : XT) (call : CallT) : DrawT := fun rd ops a A =>
  if okDraw P ops a.size then match (if ops.toList.any early then preA P ops a.size ops.toList a.tmps A A else some A) with
    | some A1 => fW A1 fun A1 => match dgo P call same rd ops a.size a.defers ops.toList a.tmps A1 A.next with
      | .ok (rs, Ms, lf) => if chkL P ops (A1 :: Ms) ops.toList 0 rs then .ok (⟨lf, a.size, a.defers⟩, lastOr A1 Ms) else .error ("draw: hangs on the order " ++ ((ops[0]?).map (·.pos)).getD "")
      | .error s => .error s
    | none => .error "draw: new"
  else .error ("draw: the order " ++ ((ops[0]?).map (·.pos)).getD "")
theorem early_defer {o : Oper} (h : early o = true) (c : Call) : o.op ≠ .defer c := fun hc => by
  unfold early at h
  rw [hc] at h
  cases h
theorem filter_lt {f g : Nat → Bool} {i : Nat} : ∀ {n : Nat}, (∀ j, g j = true → f j = true) → i < n → f i = true → g i = false → ((List.range n).filter g).length < ((List.range n).filter f).length
  | 0, _, h, _, _ => by omega
  | n + 1, hgf, hi, hf, hg => by
    rw [List.range_succ, List.filter_append, List.filter_append, List.length_append, List.length_append]
    by_cases e : i = n
    · subst e
      have h1 : ((List.range i).filter g).length ≤ ((List.range i).filter f).length := by
        have : (List.range i).filter g = ((List.range i).filter f).filter g := by
          rw [List.filter_filter]
          congr 1
          funext j
          cases hgj : g j with
          | false => simp
          | true => simp [hgf j hgj]
        rw [this]
        exact List.length_filter_le _ _
      have h2 : ([i].filter g).length = 0 := by simp [hg]
      have h3 : ([i].filter f).length = 1 := by simp [hf]
      omega
    · have h1 := filter_lt hgf (show i < n by omega) hf hg
      have h2 : ([n].filter g).length ≤ ([n].filter f).length := by
        cases hgn : g n with
        | false => simp [hgn]
        | true => simp [hgn, hgf n hgn]
      omega
section
variable {call : CallT} {same : XT} {rd ro : Option Nat} {ops : Array Oper} {size : Nat} {ds : List ADef} {l0 : Env} {recs : List Rc} {mems : List AW} {base : Nat} {μ0 : Mu} {A0 : AW} {w0 : World}
def lstOf (listed : Array Bool) (i : Nat) : Bool := listed.getD i false
structure DInv (P : Program) (ops : Array Oper) (size : Nat) (ds : List ADef) (l0 : Env) (recs : List Rc) (mems : List AW) (base : Nat) (μ0 : Mu) (A0 : AW) (w0 : World) (listed : Array Bool) (b : Act) (w : World) (c : Nat) (μ : Mu) (A : AW) : Prop where
  lsz : listed.size = ops.size
  closed : Closed ops (lstOf listed)
  chain : ∀ i, isEff P ops i = true → (lstOf listed i = true ↔ cnt P ops i < c)
  mem : mems[c]? = some A
  tmps : ∀ t v, tv ops (valOf recs) l0 (lstOf listed) t = some v → ∃ v', b.tmps.toList[t]? = some v' ∧ VR μ v v'
  len : size = b.tmps.size
  defers : DR μ ds b.defers
  wr : WR μ A w
  ext : Ext μ0 A0 w0 μ A w
  nx : base + ecnt ops ops.size ≤ A.next
  pend : ∀ j, isEarly ops j = true → lstOf listed j = false → μ (base + ecnt ops j) = none
theorem lst_set {listed : Array Bool} {i j : Nat} (h : i < listed.size) : lstOf (listed.setIfInBounds i true) j = if j = i then true else lstOf listed j := by
  unfold lstOf
  by_cases e : j = i
  · subst e; simp [h]
  · rw [if_neg e, getD_set_ne false (fun h => e h.symm)]
theorem ready_facts {listed : Array Bool} {i : Nat} (hs : listed.size = ops.size) (hi : i ∈ Region.ready .any ops listed) : i < ops.size ∧ lstOf listed i = false ∧ ∃ o, ops[i]? = some o ∧ Preds ops (lstOf listed) i := by
  obtain ⟨h1, o, h2, h3⟩ := mem_ready.1 hi
  have hlt := (Array.getElem?_eq_some_iff.1 h2).1
  refine ⟨hlt, ?_, o, h2, fun o' ho' e he hb => ?_⟩
  · unfold lstOf
    rw [Array.getD_eq_getD_getElem?] at h1 ⊢
    have : i < listed.size := by omega
    simp [this] at h1 ⊢
    exact h1
  · rw [h2] at ho'; cases ho'
    exact h3 e (Array.mem_toList_iff.1 he) hb
theorem all_listed {listed : Array Bool} (hs : listed.size = ops.size) (h0 : s0 ops = true) (hr : Region.ready .any ops listed = []) : ∀ i, i < ops.size → lstOf listed i = true := by
  intro i
  induction i using Nat.strongRecOn with
  | _ i ih =>
    intro hi
    cases hl : lstOf listed i with
    | true => rfl
    | false =>
      have ho : ops[i]? = some ops[i] := Array.getElem?_eq_getElem hi
      have : i ∈ Region.ready .any ops listed := by
        refine mem_ready.2 ⟨?_, ops[i], ho, fun e he hb => ?_⟩
        · unfold lstOf at hl
          rw [Array.getD_eq_getD_getElem?] at hl ⊢
          have : i < listed.size := by omega
          simp [this] at hl ⊢
          exact hl
        · have hlt := s0_spec h0 ho (Array.mem_toList_iff.2 he) hb
          exact ih e.on hlt (by omega)
      rw [hr] at this
      cases this
/-- What comes behind one operation. -/
theorem DInv.next {listed : Array Bool} {b : Act} {w : World} {c : Nat} {μ : Mu} {A : AW} (hk : OkD P ops size) (I : DInv P ops size ds l0 recs mems base μ0 A0 w0 listed b w c μ A) {i : Nat} {o : Oper} (ho : ops[i]? = some o) (hun : lstOf listed i = false) (hpr : Preds ops (lstOf listed) i)
    {v' : Value} {w' : World} {μ' : Mu} {A' : AW} {c' : Nat} (hv : VR μ' (valOf recs i) v') (hW : WR μ' A' w') (hle : Le μ μ') (hX : Ext μ0 A0 w0 μ' A' w') (hnx : A.next ≤ A'.next) (hpd : ∀ j, j ≠ i → isEarly ops j = true → lstOf listed j = false → μ' (base + ecnt ops j) = none) (hm : mems[c']? = some A') (hc : (isEff P ops i = true ∧ cnt P ops i = c ∧ c' = c + 1) ∨ (isEff P ops i = false ∧ c' = c)) :
    DInv P ops size ds l0 recs mems base μ0 A0 w0 (listed.setIfInBounds i true) (b.put o.dst v') w' c' μ' A' := by
  have hlt : i < ops.size := (Array.getElem?_eq_some_iff.1 ho).1
  have hil : i < listed.size := by rw [I.lsz]; exact hlt
  have hdst : dstOf ops i = o.dst := by simp [dstOf, ho]
  refine ⟨by simp [I.lsz], fun j oj hoj hj e he hb => ?_, fun j hj => ?_, hm, fun t v ht => ?_, ?_, ?_, hW, hX, Nat.le_trans I.nx hnx, fun j hj hl => ?_⟩
  · rw [lst_set hil] at hj ⊢
    by_cases ej : j = i
    · subst ej
      split
      · rfl
      · exact hpr oj hoj e he hb
    · rw [if_neg ej] at hj
      split
      · rfl
      · exact I.closed j oj hoj hj e he hb
  · rw [lst_set hil]
    rcases hc with ⟨h1, h2, rfl⟩ | ⟨h1, rfl⟩
    · by_cases ej : j = i
      · subst ej; simp only [if_true, true_iff]; omega
      · rw [if_neg ej, I.chain j hj]
        constructor
        · intro h; omega
        · intro h
          rcases Nat.lt_or_ge (cnt P ops j) c with h3 | h3
          · exact h3
          · exact absurd (cnt_inj hj h1 (by omega)) ej
    · have ej : j ≠ i := fun e => by subst e; rw [hj] at h1; cases h1
      rw [if_neg ej]
      exact I.chain j hj
  · unfold tv at ht
    cases hw : writer ops t with
    | none =>
      rw [hw] at ht
      have hne : o.dst ≠ some t := fun e => by
        have := writer_of hk (show dstOf ops i = some t by rw [hdst, e])
        rw [hw] at this; cases this
      obtain ⟨v'', h1, h2⟩ := I.tmps t v (by unfold tv; rw [hw]; exact ht)
      refine ⟨v'', ?_, h2.mono hle⟩
      cases hd : o.dst with
      | none => exact h1
      | some d =>
        simp only [Act.put, Array.toList_setIfInBounds]
        rw [List.getElem?_set_ne (fun e => hne (by rw [hd, e]))]
        exact h1
    | some p =>
      rw [hw] at ht
      simp only [lst_set hil] at ht
      by_cases ep : p = i
      · subst ep
        simp only [if_true] at ht
        cases ht
        have hd : o.dst = some t := by rw [← hdst]; exact writer_some hw
        refine ⟨v', ?_, hv⟩
        simp only [hd, Act.put, Array.toList_setIfInBounds]
        have hsm := hk.small p t (by rw [hdst, hd])
        have hlt3 : t < b.tmps.toList.length := by rw [Array.length_toList, ← I.len]; exact hsm
        rw [List.getElem?_set_self hlt3]
      · rw [if_neg ep] at ht
        have hne : o.dst ≠ some t := fun e => by
          have := writer_of hk (show dstOf ops i = some t by rw [hdst, e])
          rw [hw] at this; cases this; exact ep rfl
        obtain ⟨v'', h1, h2⟩ := I.tmps t v (by unfold tv; rw [hw]; exact ht)
        refine ⟨v'', ?_, h2.mono hle⟩
        cases hd : o.dst with
        | none => exact h1
        | some d =>
          simp only [Act.put, Array.toList_setIfInBounds]
          rw [List.getElem?_set_ne (fun e => hne (by rw [hd, e]))]
          exact h1
  · cases o.dst with
    | none => exact I.len
    | some d => simp [Act.put, I.len]
  · have : (b.put o.dst v').defers = b.defers := by cases o.dst <;> rfl
    rw [this]
    exact I.defers.mono hle
  · rw [lst_set hil] at hl
    split at hl
    · cases hl
    · rename_i e; exact hpd j e hj hl
theorem DInv.step {listed : Array Bool} {b : Act} {w : World} {c : Nat} {μ : Mu} {A : AW} (hk : OkD P ops size) (I : DInv P ops size ds l0 recs mems base μ0 A0 w0 listed b w c μ A) {i : Nat} {o : Oper} (ho : ops[i]? = some o) (hun : lstOf listed i = false) (hpr : Preds ops (lstOf listed) i)
    {v' : Value} {w' : World} {μ' : Mu} {A' : AW} {c' : Nat} (hv : VR μ' (valOf recs i) v') (hW : WR μ' A' w') (hE : Ext μ A w μ' A' w') (hm : mems[c']? = some A') (hc : (isEff P ops i = true ∧ cnt P ops i = c ∧ c' = c + 1) ∨ (isEff P ops i = false ∧ c' = c)) :
    DInv P ops size ds l0 recs mems base μ0 A0 w0 (listed.setIfInBounds i true) (b.put o.dst v') w' c' μ' A' :=
  I.next hk ho hun hpr hv hW hE.le (I.ext.trans hE) hE.next (fun j _ hj hl => (hE.keep _ (by
    have := ecnt_lt (early_in hj) hj
    have := I.nx
    omega)).trans (I.pend j hj hl)) hm hc
theorem inv_any (hro0 : RO μ0 rd ro) (hbase : A0.next ≤ base) (hcall : CallOK P call) (hsame : SameOK P same) (hk : OkD P ops size) (hE : ∀ q o, ops[q]? = some o → Each P call same rd ops size ds l0 recs mems base q o)
    (hL : ∀ q o wt v m, ops[q]? = some o → recs[q]? = some (wt, v, m) → wt = true → looks P o.op = true → ∀ j A, possB P ops q j = true → mems[j]? = some A → ∃ A', aOp P m o A = some (v, A')) (hF : ∀ q o wt v m, ops[q]? = some o → recs[q]? = some (wt, v, m) → early o = true → ∀ j A, possB P ops q j = true → mems[j]? = some A → freshB P ops o m v A = true) {Q : Exit → Act → World → Prop}
    (hq : ∀ listed b w c μ A, DInv P ops size ds l0 recs mems base μ0 A0 w0 listed b w c μ A → (∀ i, i < ops.size → lstOf listed i = true) → Q .normal b w) :
    ∀ (fuel : Nat) (listed : Array Bool) (b : Act) (w : World) (c : Nat) (μ : Mu) (A : AW), DInv P ops size ds l0 recs mems base μ0 A0 w0 listed b w c μ A → ((List.range ops.size).filter fun i => !lstOf listed i).length ≤ fuel → wpAnyIn (FR ro) 0 P .any ops Q fuel listed b w
  | 0, listed, b, w, c, μ, A, I, hf => by
    have hall : ∀ i, i < ops.size → lstOf listed i = true := fun i hi => by
      have h1 : ((List.range ops.size).filter fun i => !lstOf listed i) = [] := List.eq_nil_of_length_eq_zero (by omega)
      have h2 := List.filter_eq_nil_iff.1 h1 i (List.mem_range.2 hi)
      simpa using h2
    refine ⟨?_, hq listed b w c μ A I hall⟩
    cases hr : Region.ready .any ops listed with
    | nil => rfl
    | cons i r =>
      obtain ⟨h1, h2, _⟩ := ready_facts I.lsz (show i ∈ Region.ready .any ops listed by rw [hr]; simp)
      rw [hall i h1] at h2; cases h2
  | fuel + 1, listed, b, w, c, μ, A, I, hf => by
    refine ⟨fun hr => hq listed b w c μ A I (all_listed I.lsz hk.h0 hr), fun i hi => ?_⟩
    obtain ⟨hlt, hun, o, ho, hpr⟩ := ready_facts I.lsz hi
    have hil : i < listed.size := by rw [I.lsz]; exact hlt
    have hfuel : ((List.range ops.size).filter fun j => !lstOf (listed.setIfInBounds i true) j).length ≤ fuel := by
      have := filter_lt (f := fun j => !lstOf listed j) (g := fun j => !lstOf (listed.setIfInBounds i true) j) (i := i) (n := ops.size) (fun j hj => by
        rw [lst_set hil] at hj
        split at hj
        · cases hj
        · exact hj) hlt (by simp [hun]) (by rw [lst_set hil, if_pos rfl]; rfl)
      omega
    obtain ⟨wt, v, m, hrec, hw, hmask, hwf, heff, hnon, hear⟩ := hE i o ho
    have hval : valOf recs i = v := by simp [valOf, hrec]
    have hisE : isEff P ops i = effB P o := by simp [isEff, ho]
    have hTR : TR μ m b.tmps.toList := fun t u hu => by
      obtain ⟨h1, h2⟩ := hmask t u hu
      refine I.tmps t u ?_
      rw [← h2]
      unfold tv
      cases hwr : writer ops t with
      | none => rfl
      | some p =>
        simp only
        have hdp := writer_some hwr
        rcases hk.deps i o t p ho h1 hdp with rfl | hb | hb
        · rw [hun]; simp
        · obtain ⟨h3, h4⟩ := bef_spec hk.h0 hb
          rw [h4 _ I.closed hpr]
          simp [h3]
        · obtain ⟨h3, h4⟩ := bef_spec hk.h0 hb
          have : lstOf listed p = false := by
            cases hlp : lstOf listed p with
            | false => rfl
            | true =>
              have := h4 _ I.closed (fun op hop e he hbb => I.closed p op hop hlp e he hbb)
              rw [hun] at this; cases this
          rw [this]
          have hni : ¬ p < i := by omega
          simp [hni]
    have hab : AAR μ ⟨m, size, ds⟩ b := ⟨hTR, I.len, I.defers⟩
    have hwant := wantedE_ok (ops := ops) hab hw
    -- which operation of the chain this is
    have hchain : effB P o = true → cnt P ops i = c := fun he => by
      have h1 : ¬ cnt P ops i < c := fun h => by
        have := (I.chain i (by rw [hisE, he])).2 h
        rw [hun] at this; cases this
      rcases Nat.lt_or_ge c (cnt P ops i) with h2 | h2
      · obtain ⟨j, h3, h4, h5⟩ := cnt_hit h2
        have h6 := hk.chain i j (by rw [hisE, he]) h4 h3
        have h7 := (bef_spec hk.h0 h6).2 _ I.closed hpr
        have h8 := (I.chain j h4).1 h7
        omega
      · omega
    have hposs : possB P ops i c = true := by
      unfold possB
      refine List.all_eq_true.2 fun k hkm => ?_
      cases hek : isEff P ops k with
      | false => rfl
      | true =>
        simp only [Bool.not_true, Bool.false_or]
        by_cases hlt2 : cnt P ops k < c
        · have hb : Nat.blt (cnt P ops k) c = true := Nat.ble_eq_true_of_le hlt2
          rw [if_pos hb]
          have hlk := (I.chain k hek).2 hlt2
          cases hbk : bef ops k i with
          | false => rfl
          | true =>
            have := (bef_spec hk.h0 hbk).2 _ I.closed (fun op hop e he hbb => I.closed k op hop hlk e he hbb)
            rw [hun] at this; cases this
        · have hb : ¬ Nat.blt (cnt P ops k) c = true := fun h => hlt2 (Nat.le_of_ble_eq_true h)
          rw [if_neg hb]
          cases hbk : bef ops i k with
          | false => rfl
          | true =>
            have h7 := (bef_spec hk.h0 hbk).2 _ I.closed hpr
            exact absurd ((I.chain k hek).1 h7) hlt2
    unfold wpOpIn
    simp only [ho]
    rw [hwant]
    cases wt with
    | false =>
      simp only [Bool.false_eq_true, if_false]
      refine ⟨fun _ _ => trivial, ?_⟩
      have hvu := hwf rfl
      cases he : effB P o with
      | true =>
        obtain ⟨A1, A2, h1, h2, _, h4⟩ := heff he
        have hA2 := h4 rfl
        subst hA2
        rw [hchain he] at h1 h2
        rw [I.mem] at h1; cases h1
        exact inv_any hro0 hbase hcall hsame hk hE hL hF hq fuel _ _ w (c + 1) μ A (I.step hk ho hun hpr (by rw [hval, hvu]; exact VR_undef) I.wr Ext.refl h2 (.inl ⟨by rw [hisE, he], hchain he, rfl⟩)) hfuel
      | false =>
        exact inv_any hro0 hbase hcall hsame hk hE hL hF hq fuel _ _ w c μ A (I.step hk ho hun hpr (by rw [hval, hvu]; exact VR_undef) I.wr Ext.refl I.mem (.inr ⟨by rw [hisE, he], rfl⟩)) hfuel
    | true =>
      simp only [if_true]
      cases he : effB P o with
      | true =>
        obtain ⟨A1, A2, h1, h2, h3, _⟩ := heff he
        obtain ⟨A3, h5, rfl⟩ := h3 rfl
        rw [hchain he] at h1 h2
        rw [I.mem] at h1; cases h1
        refine evOp1_ok hcall hsame I.wr hab (hro0.mono I.ext.le) h5 (fun v2 hv2 μ' v' w' hv' W' E' => ?_) (fun d hd => by cases hd) (fun v hv => by cases hv)
        cases hv2
        exact inv_any hro0 hbase hcall hsame hk hE hL hF hq fuel _ _ w' (c + 1) μ' (layW A3) (I.step hk ho hun hpr (by rw [hval]; exact hv') W'.lay E'.lay h2 (.inl ⟨by rw [hisE, he], hchain he, rfl⟩)) hfuel
      | false =>
       cases hey : early o with
       | true =>
        obtain ⟨v0, obj, hmk, hv0⟩ := hear hey
        have hisy : isEarly ops i = true := by simp [isEarly, ho, hey]
        have hlt4 : base + ecnt ops i < A.next := by
          have := ecnt_lt hlt hisy
          have := I.nx
          omega
        have hfr := hF i o true v m ho hrec hey c A hposs I.mem
        have hgo : A.get (base + ecnt ops i) = some obj := by
          unfold freshB at hfr
          rw [hmk] at hfr
          simp only at hfr
          have hid : idOf v = base + ecnt ops i := by rw [hv0]; exact idOf_rn (mkE_new hmk)
          rw [hid] at hfr
          split at hfr
          · rename_i ob' hob
            rw [hob, objEq_eq hfr]
          · cases hfr
        obtain ⟨p', w', l, hres, h2, h3, h4⟩ := maker_late (P := P) (o := o) (a := b) I.wr hTR (fun t u hu => (hmask t u hu).1) hmk hgo (I.pend i hisy hun) hlt4
        have hnext := inv_any hro0 hbase hcall hsame hk hE hL hF hq fuel _ _ w' c _ A (I.next hk ho hun hpr (by rw [hval, hv0]; exact h2) h3 (Mu.add_le (I.pend i hisy hun)) (h4 _ _ _ (by omega) I.ext) (Nat.le_refl _) (fun j hj hj1 hj2 => by
          rw [Mu.add_ne (fun e => hj (ecnt_inj hj1 hisy (by omega)))]
          exact I.pend j hj1 hj2) I.mem (.inr ⟨by rw [hisE, he], rfl⟩)) hfuel
        refine operIn_of (.inr (early_defer hey)) ?_
        unfold Oper.wp
        rcases hres with hr | ⟨hr, rfl⟩
        · rw [hr, Oper.upon_value]; exact hnext
        · rw [hr, Oper.upon_skip]; exact hnext
       | false =>
        have hop : ∃ A', aOp P m o A = some (v, A') ∧ A' = A := by
          have hql : quiet o.op = true ∨ looks P o.op = true := by
            unfold effB at he
            cases hqo : quiet o.op with
            | true => exact .inl rfl
            | false =>
              rw [hqo, hey] at he
              simp at he
              exact .inr he
          obtain ⟨A1, A2, h1, h2⟩ := hnon he hey rfl
          rcases hql with hqq | hll
          · exact ⟨A, quiet_any hqq h2 A, rfl⟩
          · obtain ⟨A3, h3⟩ := hL i o true v m ho hrec rfl hll c A hposs I.mem
            exact ⟨A3, h3, looks_same hll h3⟩
        obtain ⟨A', hop, rfl⟩ := hop
        obtain ⟨μ', v', w', hres, hv', W', E'⟩ := aOp_ok I.wr hTR hop
        have hnext := inv_any hro0 hbase hcall hsame hk hE hL hF hq fuel _ _ w' c μ' _ (I.step hk ho hun hpr (by rw [hval]; exact hv') W' E' I.mem (.inr ⟨by rw [hisE, he], rfl⟩)) hfuel
        refine operIn_of (.inr fun c hc => ?_) ?_
        · rw [effB, hc, hey] at he
          simp [quiet, looks] at he
        unfold Oper.wp
        rcases hres with hr | ⟨hr, rfl⟩
        · rw [hr, Oper.upon_value]; exact hnext
        · rw [hr, Oper.upon_skip]; exact hnext
end
theorem evDraw_ok (hm : P.follows .mixedOrders = true) {same : XT} (hsame : SameOK P same) {call : CallT} (hcall : CallOK P call) : DrawOK P (evDraw P same call) := by
  intro rd ops a A a' A' h μ b w id ro Q W hab hro hq
  unfold evDraw at h
  split at h
  · rename_i hok
    have hk := okDraw_spec hok
    split at h
    · rename_i B hB
      have hpre : WR μ B w ∧ Ext μ A w μ B w ∧ B.next + ecnt ops 0 = A.next + ecnt ops (0 + ops.toList.length) := by
        split at hB
        · exact preA_ok (μ := μ) (w := w) (ops := ops) ops.toList 0 _ A A B (by simp) hB W
        · rename_i hany
          cases hB
          exact ⟨W, Ext.refl, by rw [ecnt_none ops.toList 0 (by simp) (by simpa using hany)]⟩
      obtain ⟨WB, EB, hBn⟩ := hpre
      rw [fW_eq] at h
      replace WB := WB.lay
      replace EB := EB.lay
      have hBn2 : A.next + ecnt ops ops.size ≤ (layW B).next := by
        have h1 : (layW B).next = B.next := rfl
        simp only [ecnt, Nat.zero_add, Array.length_toList] at hBn
        omega
      split at h
      · rename_i rs Ms lf hd
        split at h
        · rename_i hc
          cases h
          obtain ⟨g1, g2, g3⟩ := dgo_spec (base := A.next) (l0 := a.tmps) (recs := rs) (mems := layW B :: Ms) hk ops.toList 0 a.tmps (layW B) A.next rs Ms lf (by simp [ecnt]) (by simp) hd (by simp) (by simp [cnt]) (fun t => by
            unfold tv
            split <;> simp)
          have hchk := chkL_spec (P := P) (ops := ops) (mems := layW B :: Ms) (recs := rs) ops.toList 0 rs (by simp) (by simp) hc
          have hchf := chkL_early (P := P) (ops := ops) (mems := layW B :: Ms) (recs := rs) ops.toList 0 rs (by simp) (by simp) hc
          refine wpIn_region_any hm ?_
          obtain ⟨W1, E1⟩ := WB.drawn (w.drawn + 1)
          refine inv_any (rd := rd) (base := A.next) (μ0 := μ) (A0 := A) (w0 := w) (l0 := a.tmps) (ds := a.defers) (mems := layW B :: Ms) hro (Nat.le_refl _) hcall hsame hk (fun q o ho => g1 q o (Nat.zero_le _) ho) (fun q o wt v m ho hr hwt hlk j B hj hB => hchk q o wt v m (Nat.zero_le _) ho hr hwt hlk j B hj hB) (fun q o wt v m ho hr hlk j B hj hB => hchf q o wt v m (Nat.zero_le _) ho hr hlk j B hj hB) ?_ ops.size _ b _ 0 μ (layW B) ?_ ?_
          · intro listed b' w' c μ' A' I hall
            have hcn : c = Ms.length := by
              have hge : Ms.length ≤ c := by
                rcases Nat.lt_or_ge c Ms.length with h1 | h1
                · have h2 : c < cnt P ops (0 + ops.toList.length) := by rw [← g3]; omega
                  obtain ⟨j, h3, h4, h5⟩ := cnt_hit h2
                  have := (I.chain j h4).1 (hall j (eff_lt h4))
                  omega
                · exact h1
              have hle : c < (layW B :: Ms).length := (List.getElem?_eq_some_iff.1 I.mem).1
              simp only [List.length_cons] at hle
              omega
            have hA' : A' = lastOr (layW B) Ms := by
              have := I.mem
              rw [hcn, lastOr_get] at this
              exact (Option.some.inj this).symm
            subst hA'
            refine hq b' w' ⟨μ', rfl, ⟨fun t v hv => ?_, I.len, I.defers⟩, I.wr, I.ext⟩
            refine I.tmps t v ?_
            rw [← hv, g2 t]
            unfold tv
            cases hwr : writer ops t with
            | none => rfl
            | some p =>
              simp only
              have hp := dst_lt (writer_some hwr)
              rw [hall p hp]
              simp [hp]
          · refine ⟨by simp, fun i o ho hi => ?_, fun i hi => ?_, rfl, fun t v ht => ?_, hab.len, hab.defers, W1, EB.trans E1, hBn2, fun j hj hl => W.dom _ (by omega)⟩
            · unfold lstOf at hi
              rw [Array.getD_eq_getD_getElem?] at hi
              simp only [Array.getElem?_replicate] at hi
              split at hi <;> cases hi
            · constructor
              · intro h
                unfold lstOf at h
                rw [Array.getD_eq_getD_getElem?] at h
                simp only [Array.getElem?_replicate] at h
                split at h <;> cases h
              · intro h; omega
            · refine hab.tmps t v ?_
              rw [← ht]
              unfold tv
              have hf : ∀ p, lstOf (Array.replicate ops.size false) p = false := fun p => by
                unfold lstOf
                rw [Array.getD_eq_getD_getElem?]
                simp only [Array.getElem?_replicate]
                split <;> rfl
              split
              · simp [hf]
              · rfl
          · exact Nat.le_trans (List.length_filter_le _ _) (by simp)
        · cases h
      · cases h
    · cases h
  · cases h

end Ev
end Go.Proofs.Ytkjnaamlhkldmab
