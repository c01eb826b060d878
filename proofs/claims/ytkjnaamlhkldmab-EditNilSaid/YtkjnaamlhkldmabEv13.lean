import Derived.Test.YtkjnaamlhkldmabEvQ
namespace Go.Proofs.Ytkjnaamlhkldmab
namespace Ev
variable {P : Program} {μ : Mu} {A : AW} {w : World}

theorem FR_fenced (P : Program) (ro : Option Nat) (m : Machine) : m.fenced P (FR ro) := fenced_wide P m
theorem FR_room (ro : Option Nat) (n : Nat) : (FR ro).room n := fun d hd => by cases hd
theorem stepR_scope {b : Frame} {a : Act} {k : List Item} {cs : List Frame} {c : Code} : step P (lone (b.atR a (.code (.scope c) :: k)) cs w) = .next (lone (b.atR a (.code c :: .inScope c :: k)) cs w) :=
  step_lone_go (by simp [stepG, stepG.exec, Frame.atR])
theorem stepR_inScope {b : Frame} {a : Act} {k : List Item} {cs : List Frame} {c : Code} : step P (lone (b.atR a (.inScope c :: k)) cs w) = .next (lone (b.atR a k) cs w) :=
  step_lone_go (by simp [stepG, stepG.exec, Frame.atR])
def inLoopWp (ro : Option Nat) (P : Program) (c : Code) (Q : Exit → Act → World → Prop) (a : Act) (w : World) : Prop :=
  ∀ (b : Frame) (k : List Item) (cs : List Frame), b.roundOf = ro → ∃ e a' w', Q e a' w' ∧ ArrivesIn (Machine.fenced P (FR ro)) P (lone (b.atR a (.inLoop c :: k)) cs w) b k cs e a' w'
theorem round_arrives {ro : Option Nat} {c : Code} {Q : Exit → Act → World → Prop} {a : Act} (h : c.wpIn (FR ro) 0 P (Exit.then (inLoopWp ro P c Q) Q) a w) (b : Frame) (k : List Item) (cs : List Frame) (hb : b.roundOf = ro) :
    ∃ e a' w', Q e a' w' ∧ ArrivesIn (Machine.fenced P (FR ro)) P (lone (b.atR a (.code c :: .inLoop c :: k)) cs w) b k cs e a' w' := by
  obtain ⟨e, a₁, w₁, hq, harr⟩ := h b (.inLoop c :: k) cs hb trivial (FR_room _ _)
  cases e with
  | normal =>
    obtain ⟨e₂, a₂, w₂, hq₂, harr₂⟩ := hq b k cs hb
    exact ⟨e₂, a₂, w₂, hq₂, .of_steps harr harr₂⟩
  | exit id => exact ⟨_, a₁, w₁, hq, .pass (x := .inLoop c) rfl (fun _ _ => .inl (by simp)) harr⟩
  | goto l => exact ⟨_, a₁, w₁, hq, .pass (x := .inLoop c) rfl (fun _ _ => .inl (by simp)) harr⟩
  | ret => exact ⟨_, a₁, w₁, hq, .pass (x := .inLoop c) rfl (fun _ _ => .inl (by simp)) harr⟩
  | panic ch => exact ⟨_, a₁, w₁, hq, .pass (x := .inLoop c) rfl (fun _ _ => .inl (by simp)) harr⟩
  | outgrown => exact ⟨_, a₁, w₁, hq, .pass (x := .inLoop c) rfl (fun _ _ => .inl (by simp)) harr⟩
theorem inLoop_of {ro : Option Nat} {c : Code} {Q : Exit → Act → World → Prop} {a : Act} (h : c.wpIn (FR ro) 0 P (Exit.then (inLoopWp ro P c Q) Q) a w) : inLoopWp ro P c Q a w := fun b k cs hb => by
  obtain ⟨e, a', w', hq, harr⟩ := round_arrives h b k cs hb
  exact ⟨e, a', w', hq, .of_steps (.one (FR_fenced P ro _) stepR_inLoop) harr⟩
theorem loop_of {ro : Option Nat} {c : Code} {Q : Exit → Act → World → Prop} {a : Act} (h : c.wpIn (FR ro) 0 P (Exit.then (inLoopWp ro P c Q) Q) a w) : (Code.loop c).wpIn (FR ro) 0 P Q a w := fun b k cs hb _ _ => by
  obtain ⟨e, a', w', hq, harr⟩ := round_arrives h b k cs hb
  exact ⟨e, a', w', hq, .of_steps (.one (FR_fenced P ro _) stepR_loop) harr⟩
abbrev DrawT := Option Nat → Array Oper → AA → AW → Except String (AA × AW)
def DrawOK (P : Program) (dr : DrawT) : Prop := ∀ rd ops a A a' A', dr rd ops a A = .ok (a', A') → ∀ (μ : Mu) (b : Act) (w : World) (id : Nat) (ro : Option Nat) (Q : Exit → Act → World → Prop), WR μ A w → AAR μ a b → RO μ rd ro →
  (∀ b' w', QX μ A w .normal a' A' .normal b' w' → Q .normal b' w') → (Code.region id ops true).wpIn (FR ro) 0 P Q b w
/-- What a scope's code does from within. -/
def inScopeWp (ro : Option Nat) (P : Program) (c rest : Code) (Q : Exit → Act → World → Prop) (a : Act) (w : World) : Prop :=
  ∀ (b : Frame) (k : List Item) (cs : List Frame), b.roundOf = ro → ∃ e a' w', Q e a' w' ∧ ArrivesIn (Machine.fenced P (FR ro)) P (lone (b.atR a (.code rest :: .inScope c :: k)) cs w) b k cs e a' w'
def scopePost (ro : Option Nat) (P : Program) (c : Code) (Q : Exit → Act → World → Prop) : Exit → Act → World → Prop
  | .goto l, a, w => (match findLabel c l with
    | some r => inScopeWp ro P c r Q a w
    | none => Q (.goto l) a w)
  | e, a, w => Q e a w
theorem scope_of {ro : Option Nat} {c : Code} {Q : Exit → Act → World → Prop} {a : Act} (h : inScopeWp ro P c c Q a w) : (Code.scope c).wpIn (FR ro) 0 P Q a w := fun b k cs hb _ _ => by
  obtain ⟨e, a', w', hq, harr⟩ := h b k cs hb
  exact ⟨e, a', w', hq, .of_steps (.one (FR_fenced P ro _) stepR_scope) harr⟩
theorem inScope_of {ro : Option Nat} {c rest : Code} {Q : Exit → Act → World → Prop} {a : Act} (h : rest.wpIn (FR ro) 0 P (scopePost ro P c Q) a w) : inScopeWp ro P c rest Q a w := fun b k cs hb => by
  obtain ⟨e, a₁, w₁, hq, harr⟩ := h b (.inScope c :: k) cs hb trivial (FR_room _ _)
  cases e with
  | normal => exact ⟨.normal, a₁, w₁, hq, StepsIn.trans harr (.one (FR_fenced P ro _) stepR_inScope)⟩
  | exit id =>
    have hx : exitTo id (.inScope c :: k) = exitTo id k := by simp [exitTo]
    exact ⟨.exit id, a₁, w₁, hq, fun k' hk => harr.1 k' (by rw [hx]; exact hk), fun hr hk => harr.2 hr (by rw [hx]; exact hk)⟩
  | goto l =>
    simp only [scopePost] at hq
    cases hf : findLabel c l with
    | some r =>
      rw [hf] at hq
      obtain ⟨e₂, a₂, w₂, hq₂, harr₂⟩ := hq b k cs hb
      exact ⟨e₂, a₂, w₂, hq₂, .of_steps (harr.1 _ (by simp [gotoIn, hf])) harr₂⟩
    | none =>
      rw [hf] at hq
      have hx : gotoIn l (.inScope c :: k) = gotoIn l k := by simp [gotoIn, hf]
      exact ⟨.goto l, a₁, w₁, hq, fun k' hk => harr.1 k' (by rw [hx]; exact hk), fun hr hk => harr.2 hr (by rw [hx]; exact hk)⟩
  | ret => exact ⟨_, a₁, w₁, hq, harr⟩
  | panic ch => exact ⟨_, a₁, w₁, hq, harr⟩
  | outgrown => exact ⟨_, a₁, w₁, hq, harr⟩
/-! a range over a function -/
def AJ.exit' : AJ → AX
  | .none => .normal
  | .ret => .ret
  | .exit id => .exit id
  | .goto l => .goto l
noncomputable def notBusy : LoopState → Bool
  | .busy => false
  | _ => true
noncomputable def rfGo (call : CallT) (f : FuncId) (first cap : List Value) (ps : Array Tmp) (asg bd : Code) (mk : List ADef) (A : AW) (a : AA) : Except String (AX × AA × AW) :=
  fW (A.push (.loop .ready .none ps asg bd a.tmps a.size)) fun A1 =>
  match call false f (first ++ [.func (.yield A.next) #[] #[]] ++ cap) A1 with
  | .ok (.ret _, A2) => (match A2.get A.next with
    | some (.loop st j ps asg bd t n) => if notBusy st then fW (A2.set A.next (some (.loop .exhausted j ps asg bd t n))) fun A3 => .ok (j.exit', ⟨a.tmps, a.size, mk ++ a.defers⟩, A3) else .error "range: busy"
    | _ => .error "range: no record")
  | .ok (.panic _, _) => .error "range: panic"
  | .error s => .error s
theorem rfGo_ok {call : CallT} (hcall : CallOK P call) {ro : Option Nat} {f : FuncId} {first cap : List Value} {first' cap' : Array Value} {ps : Array Tmp} {asg bd : Code} {mk : List ADef} {mk' : List Deferred} {a a' : AA} {b : Act} {x : AX} {A' : AW} {Q : Exit → Act → World → Prop} {q : Loop}
    (W : WR μ A w) (hab : AAR μ a b) (hmk : ∀ μ' ds ds', Le μ μ' → DR μ' ds ds' → DR μ' (mk ++ ds) (mk' ++ ds')) (hfl : LR μ first first'.toList) (hcl : LR μ cap cap'.toList)
    (h : rfGo call f first cap ps asg bd mk A a = .ok (x, a', A')) (hq : ∀ e b' w', QX μ A w x a' A' e b' w' → Q e b' w')
    (h1 : q.state = .ready) (h2 : q.pending = none) (h3 : q.params = ps) (h4 : q.assign = asg) (h5 : q.body = bd) (h6 : q.tmps = b.tmps) :
    CallsIn (FR ro) 0 P f (first' ++ #[.func (.yield w.heap.size) #[] #[]] ++ cap') (w.alloc (.loop q)) (rangePost (FR ro) 0 P w.heap.size Q { b with defers := mk' ++ b.defers }) := by
  unfold rfGo at h
  rw [fW_eq] at h
  have hdom := W.dom A.next (Nat.le_refl _)
  have hloc : (μ.add A.next ⟨w.heap.size, 0, 0, 0⟩) A.next = some ⟨w.heap.size, 0, 0, 0⟩ := Mu.add_get hdom
  have hle : Le μ (μ.add A.next ⟨w.heap.size, 0, 0, 0⟩) := Mu.add_le hdom
  obtain ⟨W1, E1⟩ := W.new (d := 0) (sz := 0) (k := 0) (o := .loop .ready .none ps asg bd a.tmps a.size) (o' := .loop q) ⟨q, rfl, h1, h2, h3, h4, h5, by rw [h6, hab.len], fun t v ht => by
    rw [h6]
    exact (hab.tmps.mono hle) t v ht⟩
  have hargs : LR (μ.add A.next ⟨w.heap.size, 0, 0, 0⟩) (first ++ [Value.func (.yield A.next) #[] #[]] ++ cap) (first' ++ #[Value.func (.yield w.heap.size) #[] #[]] ++ cap').toList := by
    rw [toList_append3]
    have hy : VR (μ.add A.next ⟨w.heap.size, 0, 0, 0⟩) (.func (.yield A.next) #[] #[]) (.func (.yield w.heap.size) #[] #[]) := by
      simp only [VR]
      exact ⟨trivial, trivial, _, rfl, hloc⟩
    exact ((hfl.mono hle).append (LR.cons hy LR.nil)).append (hcl.mono hle)
  split at h
  · rename_i v A2 hc
    have key := hcall.fn _ _ _ _ _ hc _ _ _ W1.lay hargs
    refine FR_calls (key.mono fun e w2 ⟨μ2, he, W2, E2⟩ => ?_)
    cases e with
    | returned v' =>
      split at h
      · rename_i st j ps2 asg2 bd2 t n hg
        split at h
        · rename_i hst
          rw [fW_eq] at h
          cases h
          have hl2 : μ2 A.next = some ⟨w.heap.size, 0, 0, 0⟩ := E2.le _ _ hloc
          obtain ⟨o2, ho2, q2, rfl, g1, g2, g3, g4, g5, g6, g7⟩ := W2.has _ _ _ hg hl2
          have hnb : q2.state ≠ .busy := fun e => by rw [g1] at e; subst e; cases hst
          obtain ⟨W3, E3⟩ := W2.upd (o := .loop .exhausted j ps2 asg2 bd2 t n) (o' := .loop { q2 with state := .exhausted }) hg hl2 ⟨_, rfl, rfl, g2, g3, g4, g5, g6, g7⟩
          refine ⟨q2.pending, _, run_endLoop ho2 hnb, ?_⟩
          have EE : Ext μ A w μ2 _ _ := (E1.lay.trans E2).trans E3.lay
          have hfin : AAR μ2 ⟨a.tmps, a.size, mk ++ a.defers⟩ { b with defers := mk' ++ b.defers } := ⟨(hab.mono EE.le).tmps, hab.len, hmk _ _ _ EE.le (hab.mono EE.le).defers⟩
          have fin : ∀ jp : Option Code, jp = j.code → (match jp with
              | none => Q .normal { b with defers := mk' ++ b.defers } (w2.putObj w.heap.size (.loop { q2 with state := .exhausted }))
              | some c => c.wpIn (FR ro) 0 P Q { b with defers := mk' ++ b.defers } (w2.putObj w.heap.size (.loop { q2 with state := .exhausted }))) := fun jp hjp => by
            subst hjp
            cases j with
            | none => exact hq _ _ _ ⟨μ2, rfl, hfin, W3.lay, EE⟩
            | ret => exact wpIn_ret (hq _ _ _ ⟨μ2, rfl, hfin, W3.lay, EE⟩)
            | exit id => exact wpIn_exit (hq _ _ _ ⟨μ2, rfl, hfin, W3.lay, EE⟩)
            | goto l => exact wpIn_goto (hq _ _ _ ⟨μ2, rfl, hfin, W3.lay, EE⟩)
          exact fin _ g2
        · cases h
      · cases h
    | panicked ch => exact he.elim
    | outgrown => exact he.elim
  · cases h
  · cases h
noncomputable def evRF (P : Program) (call : CallT) (rd : Option Nat) (g : Operand) (ps : Array Tmp) (asg bd : Code) (a : AA) (A : AW) : Except String (AX × AA × AW) :=
  match opv a.tmps g with
  | some (.func (.func f) ⟨first⟩ ⟨cap⟩) => (match P.funcs[f]? with
    | some fn => if fn.body.isSome ∧ (fn.name == "runtime.NumGoroutine") = false then
        (match rd with
        | none => rfGo call f first cap ps asg bd [.mark A.next] (A.push (.dfr true)) a
        | some r => (match A.get r with
          | some (.loop _ _ _ _ _ _ _) => rfGo call f first cap ps asg bd [] A a
          | _ => .error "range: no record around"))
      else .error ("range: no body: " ++ fn.name)
    | none => .error "range: no such function")
  | _ => .error "range: callee"
theorem enterLoop_inner {l₀ : Nat} {r₀ : Loop} (h : w.heap[l₀]? = some (.loop r₀)) (fn : FuncId) (tmps : Array Value) (ps : Array Tmp) (assign body : Code) :
    (Instr.enterLoop fn tmps ps assign body (some l₀)).run P w =
      .ok (w.heap.size, []) (w.alloc (.loop { state := .ready, pending := none, fn, tmps, params := ps, assign, body, defers := r₀.defers })) := by
  unfold Instr.enterLoop
  simp only [Sem.run_bind, run_getLoop h, run_newObj_alloc, Result.andThen, Sem.run_pure]
theorem evRF_ok {call : CallT} (hcall : CallOK P call) {rd ro : Option Nat} {g : Operand} {ps : Array Tmp} {asg bd : Code} {a a' : AA} {b : Act} {x : AX} {A' : AW} {Q : Exit → Act → World → Prop} (W : WR μ A w) (hab : AAR μ a b) (hro : RO μ rd ro)
    (h : evRF P call rd g ps asg bd a A = .ok (x, a', A')) (hq : ∀ e b' w', QX μ A w x a' A' e b' w' → Q e b' w') : (Code.rangeFunc g ps asg bd).wpIn (FR ro) 0 P Q b w := by
  unfold evRF at h
  split at h
  · rename_i f first cap hg
    have hfv := opv_ok hab.tmps hg
    simp only [VR] at hfv
    obtain ⟨first', cap', hfe, hfl, hcl⟩ := hfv
    split at h
    · rename_i fn hfn
      split at h
      · rename_i hb
        have hne : fn.body.isNone = false := by
          cases hbb : fn.body with
          | none => rw [hbb] at hb; simp at hb
          | some c => rfl
        have hinv : ∀ (args : Array Value) (W : World), (callFunc f args).run P W = .ok (.enter f args) W := fun args W => by
          simp only [callFunc, Sem.run_bind, run_program, Result.andThen, hfn, hb.2, Bool.false_eq_true, if_false, hne, Sem.run_pure]
        have hres : ∀ (l : Nat) (W : World), (resolve b.eval (rangeCall g l) 0).run P W = .ok { target := .fn (.func f) cap', args := first' ++ #[.func (.yield l) #[] #[]] } W := fun l W => by
          simp only [resolve, hfe, Deferred.ofValue, Sem.run_pure]
          simp [Act.eval]
        refine wpIn_rangeFunc fun fnr _ => ?_
        split at h
        · simp only [RO] at hro
          subst hro
          obtain ⟨W1, E1⟩ := W.new (d := 0) (sz := 0) (k := 0) (o := .dfr true) (o' := .deferred (some [])) rfl
          have hdom := W.dom A.next (Nat.le_refl _)
          have hloc : (μ.add A.next ⟨w.heap.size, 0, 0, 0⟩) A.next = some ⟨w.heap.size, 0, 0, 0⟩ := Mu.add_get hdom
          have key := rfGo_ok (ro := none) (mk' := [{ target := .collected w.heap.size, args := #[] }]) (q := { state := .ready, pending := none, fn := fnr, tmps := b.tmps, params := ps, assign := asg, body := bd, defers := w.heap.size }) (Q := Q) hcall W1 (hab.mono E1.le) (fun μ' ds ds' hle hd => by
            simp only [List.singleton_append, DR]
            exact ⟨_, _, rfl, hle _ _ hloc, hd⟩) (hfl.mono E1.le) (hcl.mono E1.le) h (fun e b' w' ⟨μ', q1, q2, q3, q4⟩ => hq _ _ _ ⟨μ', q1, q2, q3, E1.trans q4⟩) rfl rfl rfl rfl rfl rfl
          have hsz : ({ w with heap := w.heap.push (.deferred (some [])) } : World).heap.size = w.heap.size + 1 := by simp
          rw [hsz] at key
          exact ⟨_, _, _, _, _, f, _, _, run_enterLoop_outer fnr b.tmps ps asg bd, hres _ _, fun _ _ => trivial, hinv _ _, fun hd => (by simp [FR] at hd), key⟩
        · rename_i r
          split at h
          · rename_i hgr
            obtain ⟨l, hl, hroe⟩ := hro
            subst hroe
            obtain ⟨o1, ho1, q1, rfl, _⟩ := W.has _ _ _ hgr hl
            have key := rfGo_ok (ro := some l.b) (mk := []) (mk' := []) (q := { state := .ready, pending := none, fn := fnr, tmps := b.tmps, params := ps, assign := asg, body := bd, defers := q1.defers }) (Q := Q) hcall W hab (fun μ' ds ds' hle hd => hd) hfl hcl h hq rfl rfl rfl rfl rfl rfl
            exact ⟨_, _, _, _, _, f, _, _, enterLoop_inner ho1 fnr b.tmps ps asg bd, hres _ _, fun _ _ => trivial, hinv _ _, fun hd => (by simp [FR] at hd), key⟩
          · cases h
      · cases h
    · cases h
  · cases h
noncomputable def evK (P : Program) (call : CallT) (same : XT) (dr : DrawT) (rd : Option Nat) : Nat → Option Code → Code → AA → AW → Except String (AX × AA × AW)
  | 0, _, _, _, _ => .error "out of fuel"
  | n + 1, some c0, c, a, A => match evK P call same dr rd n none c a A with
    | .ok (.goto l, a', A') => match findLabel c0 l with
      | some rest => evK P call same dr rd n (some c0) rest a' A'
      | none => .ok (.goto l, a', A')
    | r => r
  | n + 1, none, c, a, A => match c with
    | .skip => .ok (.normal, a, A)
    | .label _ => .ok (.normal, a, A)
    | .region _ ops false => evOpsL P call same rd ops ops.toList a A
    | .region _ ops true => match dr rd ops a A with
      | .ok (a', A') => .ok (.normal, a', A')
      | .error s => .error s
    | .seq x y => match evK P call same dr rd n none x a A with
      | .ok (.normal, a', A') => evK P call same dr rd n none y a' A'
      | r => r
    | .cond c x y => match opv a.tmps c with
      | some (.bool true) => evK P call same dr rd n none x a A
      | some (.bool false) => evK P call same dr rd n none y a A
      | _ => .error "cond"
    | .block id x => match evK P call same dr rd n none x a A with
      | .ok (.exit id', a', A') => .ok (if id' = id then .normal else .exit id', a', A')
      | r => r
    | .loop x => match evK P call same dr rd n none x a A with
      | .ok (.normal, a', A') => evK P call same dr rd n none (.loop x) a' A'
      | r => r
    | .exit id => .ok (.exit id, a, A)
    | .ret => .ok (.ret, a, A)
    | .goto l => .ok (.goto l, a, A)
    | .scope x => evK P call same dr rd n (some x) x a A
    | .rangeFunc g ps asg bd => evRF P call rd g ps asg bd a A
    | _ => .error "this code is not served"
noncomputable def evC (P : Program) (call : CallT) (same : XT) (dr : DrawT) (rd : Option Nat) (n : Nat) (c : Code) (a : AA) (A : AW) : Except String (AX × AA × AW) := evK P call same dr rd n none c a A
theorem evK_ok {call : CallT} {same : XT} {dr : DrawT} (hcall : CallOK P call) (hsame : SameOK P same) (hdr : DrawOK P dr) {rd ro : Option Nat} : ∀ (n : Nat) (sc : Option Code) (c : Code) (a : AA) (A : AW) (μ : Mu) (b : Act) (w : World) (x : AX) (a' : AA) (A' : AW) (Q : Exit → Act → World → Prop), evK P call same dr rd n sc c a A = .ok (x, a', A') → WR μ A w → AAR μ a b → RO μ rd ro →
    (∀ e b' w', QX μ A w x a' A' e b' w' → Q e b' w') → (sc = none → c.wpIn (FR ro) 0 P Q b w ∧ (∀ y, c = .loop y → inLoopWp ro P y Q b w)) ∧ (∀ c0, sc = some c0 → inScopeWp ro P c0 c Q b w)
  | 0, _, _, _, _, _, _, _, _, _, _, _, h, _, _, _, _ => by simp only [evK] at h; cases h
  | n + 1, some c0, c, a, A, μ, b, w, x, a', A', Q, h, W, hab, hro, hq => by
    have IH := evK_ok (rd := rd) (ro := ro) hcall hsame hdr n
    refine ⟨fun hh => (by cases hh), fun c1 hc => ?_⟩
    cases hc
    simp only [evK] at h
    split at h
    · rename_i l a1 A1 h1
      split at h
      · rename_i rest hf
        refine inScope_of ((IH none c a A μ b w (.goto l) a1 A1 _ h1 W hab hro fun e b' w' ⟨μ', q1, q2, q3, q4⟩ => ?_).1 rfl).1
        simp only [XR] at q1; subst q1
        simp only [scopePost, hf]
        exact (IH (some c0) rest a1 A1 μ' b' w' x a' A' Q h q3 q2 (hro.mono q4.le) fun e b'' w'' ⟨μ'', r1, r2, r3, r4⟩ => hq _ _ _ ⟨μ'', r1, r2, r3, q4.trans r4⟩).2 c0 rfl
      · rename_i hf
        cases h
        refine inScope_of ((IH none c a A μ b w (.goto l) _ _ _ h1 W hab hro fun e b' w' hx => ?_).1 rfl).1
        have hx0 := hx
        obtain ⟨μ', q1, _⟩ := hx
        simp only [XR] at q1; subst q1
        simp only [scopePost, hf]
        exact hq _ _ _ hx0
    · rename_i r hr
      refine inScope_of ((IH none c a A μ b w x a' A' _ h W hab hro fun e b' w' hx => ?_).1 rfl).1
      have hx0 := hx
      obtain ⟨μ', q1, _⟩ := hx
      cases x with
      | goto l => exact absurd h (hr _ _ _)
      | normal => simp only [XR] at q1; subst q1; exact hq _ _ _ hx0
      | exit id => simp only [XR] at q1; subst q1; exact hq _ _ _ hx0
      | ret => simp only [XR] at q1; subst q1; exact hq _ _ _ hx0
      | panic v => simp only [XR] at q1; obtain ⟨v', rfl, q3⟩ := q1; exact hq _ _ _ hx0
  | n + 1, none, c, a, A, μ, b, w, x, a', A', Q, h, W, hab, hro, hq => by
    have IH := evK_ok (rd := rd) (ro := ro) hcall hsame hdr n
    refine ⟨fun _ => ?_, fun c1 hc => (by cases hc)⟩
    simp only [evK] at h
    split at h
    · cases h; exact ⟨wpIn_skip (hq _ _ _ ⟨μ, rfl, hab, W, Ext.refl⟩), fun y hy => by cases hy⟩
    · cases h; exact ⟨wpIn_label (hq _ _ _ ⟨μ, rfl, hab, W, Ext.refl⟩), fun y hy => by cases hy⟩
    · exact ⟨wpIn_region (evOps_ok hcall hsame _ a A μ b w W hab hro (evOpsL_eq.symm.trans h) hq), fun y hy => by cases hy⟩
    · split at h
      · rename_i a1 A1 h1
        cases h
        exact ⟨hdr _ _ _ _ _ _ h1 μ b w _ ro Q W hab hro fun b' w' hx => hq _ _ _ hx, fun y hy => by cases hy⟩
      · cases h
    · rename_i y z
      refine ⟨wpIn_seq ?_, fun y hy => by cases hy⟩
      split at h
      · rename_i a1 A1 h1
        refine ((IH none y a A μ b w .normal a1 A1 _ h1 W hab hro fun e b' w' ⟨μ', q1, q2, q3, q4⟩ => ?_).1 rfl).1
        simp only [XR] at q1; subst q1
        exact ((IH none z a1 A1 μ' b' w' x a' A' Q h q3 q2 (hro.mono q4.le) fun e b'' w'' ⟨μ'', r1, r2, r3, r4⟩ => hq _ _ _ ⟨μ'', r1, r2, r3, q4.trans r4⟩).1 rfl).1
      · rename_i r hr
        refine ((IH none y a A μ b w x a' A' _ h W hab hro fun e b' w' hx => ?_).1 rfl).1
        cases x with
        | normal => exact absurd h (hr _ _)
        | exit id => obtain ⟨μ', q1, q2⟩ := hx; simp only [XR] at q1; subst q1; exact hq _ _ _ ⟨μ', rfl, q2⟩
        | goto l => obtain ⟨μ', q1, q2⟩ := hx; simp only [XR] at q1; subst q1; exact hq _ _ _ ⟨μ', rfl, q2⟩
        | ret => obtain ⟨μ', q1, q2⟩ := hx; simp only [XR] at q1; subst q1; exact hq _ _ _ ⟨μ', rfl, q2⟩
        | panic v => obtain ⟨μ', q1, q2⟩ := hx; simp only [XR] at q1; obtain ⟨v', rfl, q3⟩ := q1; exact hq _ _ _ ⟨μ', ⟨v', rfl, q3⟩, q2⟩
    · rename_i cc y z
      split at h
      · rename_i hc
        have := opv_ok hab.tmps hc
        simp only [VR] at this
        exact ⟨wpIn_cond_true this ((IH none y a A μ b w x a' A' Q h W hab hro hq).1 rfl).1, fun y hy => by cases hy⟩
      · rename_i hc
        have := opv_ok hab.tmps hc
        simp only [VR] at this
        exact ⟨wpIn_cond_false this ((IH none z a A μ b w x a' A' Q h W hab hro hq).1 rfl).1, fun y hy => by cases hy⟩
      · cases h
    · rename_i id y
      refine ⟨wpIn_block ?_, fun y hy => by cases hy⟩
      split at h
      · rename_i id' a1 A1 h1
        cases h
        refine ((IH none y a A μ b w (.exit id') a' A' _ h1 W hab hro fun e b' w' ⟨μ', q1, q2⟩ => ?_).1 rfl).1
        simp only [XR] at q1; subst q1
        simp only [Exit.inBlock]
        by_cases e : id' = id
        · rw [if_pos e]; exact hq _ _ _ ⟨μ', by rw [if_pos e]; rfl, q2⟩
        · rw [if_neg e]; exact hq _ _ _ ⟨μ', by rw [if_neg e]; rfl, q2⟩
      · rename_i r hr
        refine ((IH none y a A μ b w x a' A' _ h W hab hro fun e b' w' hx => ?_).1 rfl).1
        cases x with
        | exit id => exact absurd h (hr _ _ _)
        | normal => obtain ⟨μ', q1, q2⟩ := hx; simp only [XR] at q1; subst q1; exact hq _ _ _ ⟨μ', rfl, q2⟩
        | goto l => obtain ⟨μ', q1, q2⟩ := hx; simp only [XR] at q1; subst q1; exact hq _ _ _ ⟨μ', rfl, q2⟩
        | ret => obtain ⟨μ', q1, q2⟩ := hx; simp only [XR] at q1; subst q1; exact hq _ _ _ ⟨μ', rfl, q2⟩
        | panic v => obtain ⟨μ', q1, q2⟩ := hx; simp only [XR] at q1; obtain ⟨v', rfl, q3⟩ := q1; exact hq _ _ _ ⟨μ', ⟨v', rfl, q3⟩, q2⟩
    · rename_i y
      have hbody : y.wpIn (FR ro) 0 P (Exit.then (inLoopWp ro P y Q) Q) b w := by
        split at h
        · rename_i a1 A1 h1
          refine ((IH none y a A μ b w .normal a1 A1 _ h1 W hab hro fun e b' w' ⟨μ', q1, q2, q3, q4⟩ => ?_).1 rfl).1
          simp only [XR] at q1; subst q1
          exact ((IH none (.loop y) a1 A1 μ' b' w' x a' A' Q h q3 q2 (hro.mono q4.le) fun e b'' w'' ⟨μ'', r1, r2, r3, r4⟩ => hq _ _ _ ⟨μ'', r1, r2, r3, q4.trans r4⟩).1 rfl).2 y rfl
        · rename_i r hr
          refine ((IH none y a A μ b w x a' A' _ h W hab hro fun e b' w' hx => ?_).1 rfl).1
          cases x with
          | normal => exact absurd h (hr _ _)
          | exit id => obtain ⟨μ', q1, q2⟩ := hx; simp only [XR] at q1; subst q1; exact hq _ _ _ ⟨μ', rfl, q2⟩
          | goto l => obtain ⟨μ', q1, q2⟩ := hx; simp only [XR] at q1; subst q1; exact hq _ _ _ ⟨μ', rfl, q2⟩
          | ret => obtain ⟨μ', q1, q2⟩ := hx; simp only [XR] at q1; subst q1; exact hq _ _ _ ⟨μ', rfl, q2⟩
          | panic v => obtain ⟨μ', q1, q2⟩ := hx; simp only [XR] at q1; obtain ⟨v', rfl, q3⟩ := q1; exact hq _ _ _ ⟨μ', ⟨v', rfl, q3⟩, q2⟩
      exact ⟨loop_of hbody, fun z hz => by cases hz; exact inLoop_of hbody⟩
    · cases h; exact ⟨wpIn_exit (hq _ _ _ ⟨μ, rfl, hab, W, Ext.refl⟩), fun y hy => by cases hy⟩
    · cases h; exact ⟨wpIn_ret (hq _ _ _ ⟨μ, rfl, hab, W, Ext.refl⟩), fun y hy => by cases hy⟩
    · cases h; exact ⟨wpIn_goto (hq _ _ _ ⟨μ, rfl, hab, W, Ext.refl⟩), fun y hy => by cases hy⟩
    · rename_i y
      exact ⟨scope_of ((IH (some y) y a A μ b w x a' A' Q h W hab hro hq).2 y rfl), fun y hy => by cases hy⟩
    · exact ⟨evRF_ok hcall W hab hro h hq, fun y hy => by cases hy⟩
    · cases h
theorem evC_ok {call : CallT} {same : XT} {dr : DrawT} (hcall : CallOK P call) (hsame : SameOK P same) (hdr : DrawOK P dr) {rd ro : Option Nat} (n : Nat) (c : Code) (a : AA) (A : AW) (μ : Mu) (b : Act) (w : World) (x : AX) (a' : AA) (A' : AW) (Q : Exit → Act → World → Prop) (h : evC P call same dr rd n c a A = .ok (x, a', A')) (W : WR μ A w) (hab : AAR μ a b) (hro : RO μ rd ro)
    (hq : ∀ e b' w', QX μ A w x a' A' e b' w' → Q e b' w') : c.wpIn (FR ro) 0 P Q b w := ((evK_ok hcall hsame hdr n none c a A μ b w x a' A' Q h W hab hro hq).1 rfl).1
/-! deferred calls -/
inductive AM where
  | ret
  | pan (v : Value)
  | recd (v : Value)
def MoR (μ : Mu) : AM → FrameMode → Prop
  | .ret, m => m = .returning
  | .pan v, m => ∃ v', m = .panicking [{ v := v', recovered := false }] ∧ VR μ v v'
  | .recd v, m => ∃ v', m = .panicking [{ v := v', recovered := true }] ∧ VR μ v v'
theorem MoR.mono {μ μ' : Mu} (h : Le μ μ') : ∀ {u : AM} {m : FrameMode}, MoR μ u m → MoR μ' u m
  | .ret, _, r => r
  | .pan _, _, r => by obtain ⟨v', h1, h2⟩ := r; exact ⟨v', h1, h2.mono h⟩
  | .recd _, _, r => by obtain ⟨v', h1, h2⟩ := r; exact ⟨v', h1, h2.mono h⟩
def isRec : Op → Bool
  | .call { callee := .builtin .recover, args := _, argTypes := _ } => true
  | _ => false
noncomputable def evOpsS (P : Program) (call : CallT) (same : XT) (ops : Array Oper) : List Nat → AA → AM → AW → Except String (AX × AA × AM × AW)
  | [], a, u, A => .ok (.normal, a, u, A)
  | i :: r, a, u, A => match ops[i]? with
    | none => .error "no such operation"
    | some o => match wantedE ops a.tmps o with
      | some true => if isRec o.op then
          match u with
          | .pan v => fPutE a o.dst v fun a' => evOpsS P call same ops r a' (.recd v) A
          | _ => fPutE a o.dst .nilIface fun a' => evOpsS P call same ops r a' u A
        else match evOp0 P call same o a A with
        | .ok (.val v, A') => fV v fun v => fPutE a o.dst v fun a' => fW A' fun A' => evOpsS P call same ops r a' u A'
        | .ok (.dfr _, _) => .error "defer in a deferred call"
        | .ok (.panic v, A') => fV v fun v => fW A' fun A' => .ok (.panic v, a, u, A')
        | .error s => .error s
      | some false => fPutE a o.dst undef fun a' => evOpsS P call same ops r a' u A
      | none => .error ("guard: " ++ o.pos)
def QS (c0 : Frame) (cs0 : List Frame) (Q : Exit → Act → List Frame → World → Prop) (μ : Mu) (A : AW) (w : World) (x : AX) (a' : AA) (u' : AM) (A' : AW) : Prop :=
  ∀ e b' m' w' μ', XR μ' x e → AAR μ' a' b' → MoR μ' u' m' → WR μ' A' w' → Ext μ A w μ' A' w' → Q e b' ({ c0 with mode := m' } :: cs0) w'
theorem evOpsS_ok {call : CallT} {same : XT} (hcall : CallOK P call) (hsame : SameOK P same) {ops : Array Oper} {c0 : Frame} {cs0 : List Frame} {Q : Exit → Act → List Frame → World → Prop} {x : AX} {a' : AA} {u' : AM} {A' : AW} : ∀ (l : List Nat) (a : AA) (u : AM) (A : AW) (μ : Mu) (b : Act) (m : FrameMode) (w : World), WR μ A w → AAR μ a b → MoR μ u m →
    evOpsS P call same ops l a u A = .ok (x, a', u', A') → QS c0 cs0 Q μ A w x a' u' A' → wpOpsS P ops Q l b ({ c0 with mode := m } :: cs0) w
  | [], a, u, A, μ, b, m, w, W, hab, hm, h, hq => by
    simp only [evOpsS] at h; cases h
    simp only [wpOpsS]
    exact hq _ _ _ _ _ rfl hab hm W Ext.refl
  | i :: r, a, u, A, μ, b, m, w, W, hab, hm, h, hq => by
    have qtrans : ∀ {μ1 : Mu} {A1 : AW} {w1 : World}, Ext μ A w μ1 A1 w1 → QS c0 cs0 Q μ1 A1 w1 x a' u' A' := fun E => fun e b' m' w' μ' h1 h2 h3 h4 h5 => hq e b' m' w' μ' h1 h2 h3 h4 (E.trans h5)
    simp only [evOpsS] at h
    split at h
    · cases h
    · rename_i o ho
      simp only [wpOpsS, ho]
      split at h
      · rename_i hw
        rw [wantedE_ok hab hw, if_pos rfl]
        split at h
        · rename_i hr
          have hrun : (execOp b.eval o).run P w = .ok .recover w := by
            unfold isRec at hr
            split at hr
            · rename_i heq
              simp only [execOp, heq, resolve, Sem.run_bind, Sem.run_pure, Result.andThen, invoke, builtin]
            · cases hr
          rw [hrun]
          simp only
          split at h
          · rename_i v
            rw [fPutE_eq] at h
            obtain ⟨v', rfl, hv⟩ := hm
            simp only [recoverD]
            exact evOpsS_ok hcall hsame r _ (.recd v) A μ _ (.panicking [{ v := v', recovered := true }]) w W (hab.put _ hv) ⟨v', rfl, hv⟩ h hq
          · rename_i hnp
            rw [fPutE_eq] at h
            have hrec : recoverD ({ c0 with mode := m } :: cs0) = none := by
              cases u with
              | ret => simp only [MoR] at hm; subst hm; rfl
              | pan v => exact absurd rfl (hnp v)
              | recd v => obtain ⟨v', rfl, hv⟩ := hm; rfl
            rw [hrec]
            exact evOpsS_ok hcall hsame r _ u A μ _ m w W (hab.put _ (by simp [VR])) hm h hq
        · have hup : ∀ (K : Act → World → Prop) (Q' : Exit → Act → World → Prop), o.wp P b w K Q' → (match (execOp b.eval o).run P w with
              | .ok .recover w' => (match recoverD ({ c0 with mode := m } :: cs0) with
                | some (v, cs') => wpOpsS P ops Q r (b.put o.dst v) cs' w'
                | none => wpOpsS P ops Q r (b.put o.dst .nilIface) ({ c0 with mode := m } :: cs0) w')
              | rr => o.upon P b K Q' rr) := fun K Q' hh => by
            unfold Oper.wp at hh
            generalize (execOp b.eval o).run P w = rr at hh
            split
            · exact hh.elim
            · exact hh
          split at h
          · rename_i v A1 h1
            rw [fV_eq, fPutE_eq, fW_eq] at h
            refine hup _ _ (evOp0_ok hcall hsame W hab h1 (fun v2 hv2 μ' v' w' hv' W' E' => ?_) (fun d hd => by cases hd) (fun v hv => by cases hv))
            cases hv2
            exact evOpsS_ok hcall hsame r _ u _ μ' _ m w' W'.lay ((hab.mono E'.le).put _ hv') (hm.mono E'.le) h (qtrans E'.lay)
          · cases h
          · rename_i v A1 h1
            rw [fV_eq, fW_eq] at h
            cases h
            refine hup _ _ (evOp0_ok hcall hsame W hab h1 (fun v2 hv2 => by cases hv2) (fun d hd => by cases hd) (fun v hv μ' v' w' hv' W' E' => ?_))
            cases hv
            exact hq _ _ _ _ μ' ⟨v', rfl, hv'⟩ (hab.mono E'.le) (hm.mono E'.le) W'.lay E'.lay
          · cases h
      · rename_i hw
        rw [wantedE_ok hab hw, if_neg (by simp)]
        rw [fPutE_eq] at h
        exact evOpsS_ok hcall hsame r _ u A μ _ m w W (hab.put _ VR_undef) hm h hq
      · cases h
noncomputable def evS (P : Program) (call : CallT) (same : XT) (dr : DrawT) : Nat → Code → AA → AM → AW → Except String (AX × AA × AM × AW)
  | 0, _, _, _, _ => .error "out of fuel"
  | n + 1, c, a, u, A => match c with
    | .region _ ops false => evOpsS P call same ops (List.range ops.size) a u A
    | .seq x y => match evS P call same dr n x a u A with
      | .ok (.normal, a', u', A') => evS P call same dr n y a' u' A'
      | r => r
    | .cond c x y => match opv a.tmps c with
      | some (.bool true) => evS P call same dr n x a u A
      | some (.bool false) => evS P call same dr n y a u A
      | _ => .error "cond"
    | c => match evC P call same dr none n c a A with
      | .ok (x, a', A') => .ok (x, a', u, A')
      | .error s => .error s
theorem evS_ok {call : CallT} {same : XT} {dr : DrawT} (hcall : CallOK P call) (hsame : SameOK P same) (hdr : DrawOK P dr) {c0 : Frame} {cs0 : List Frame} : ∀ (n : Nat) (c : Code) (a : AA) (u : AM) (A : AW) (μ : Mu) (b : Act) (m : FrameMode) (w : World) (x : AX) (a' : AA) (u' : AM) (A' : AW) (Q : Exit → Act → List Frame → World → Prop), evS P call same dr n c a u A = .ok (x, a', u', A') → WR μ A w → AAR μ a b → MoR μ u m →
    QS c0 cs0 Q μ A w x a' u' A' → c.wpS P Q b ({ c0 with mode := m } :: cs0) w
  | 0, _, _, _, _, _, _, _, _, _, _, _, _, _, h, _, _, _, _ => by cases h
  | n + 1, c, a, u, A, μ, b, m, w, x, a', u', A', Q, h, W, hab, hm, hq => by
    have IH := evS_ok (c0 := c0) (cs0 := cs0) hcall hsame hdr n
    have qtrans : ∀ {μ1 : Mu} {A1 : AW} {w1 : World}, Ext μ A w μ1 A1 w1 → QS c0 cs0 Q μ1 A1 w1 x a' u' A' := fun E => fun e b' m' w' μ' h1 h2 h3 h4 h5 => hq e b' m' w' μ' h1 h2 h3 h4 (E.trans h5)
    unfold evS at h
    split at h
    · exact wpS_region (evOpsS_ok hcall hsame _ a u A μ b m w W hab hm h hq)
    · rename_i y z
      refine wpS_seq ?_
      split at h
      · rename_i a1 u1 A1 h1
        refine IH y a u A μ b m w .normal a1 u1 A1 _ h1 W hab hm fun e b' m' w' μ' q1 q2 q3 q4 q5 => ?_
        simp only [XR] at q1; subst q1
        exact IH z a1 u1 A1 μ' b' m' w' x a' u' A' Q h q4 q2 q3 (qtrans q5)
      · rename_i r hr
        refine IH y a u A μ b m w x a' u' A' _ h W hab hm fun e b' m' w' μ' q1 q2 q3 q4 q5 => ?_
        cases x with
        | normal => exact absurd h (hr _ _ _)
        | exit id => simp only [XR] at q1; subst q1; exact hq _ _ _ _ μ' rfl q2 q3 q4 q5
        | goto l => simp only [XR] at q1; subst q1; exact hq _ _ _ _ μ' rfl q2 q3 q4 q5
        | ret => simp only [XR] at q1; subst q1; exact hq _ _ _ _ μ' rfl q2 q3 q4 q5
        | panic v => simp only [XR] at q1; obtain ⟨v', rfl, q6⟩ := q1; exact hq _ _ _ _ μ' ⟨v', rfl, q6⟩ q2 q3 q4 q5
    · rename_i cc y z
      split at h
      · rename_i hc
        have := opv_ok hab.tmps hc
        simp only [VR] at this
        exact wpS_cond this (IH y a u A μ b m w x a' u' A' Q h W hab hm hq)
      · rename_i hc
        have := opv_ok hab.tmps hc
        simp only [VR] at this
        exact wpS_cond this (IH z a u A μ b m w x a' u' A' Q h W hab hm hq)
      · cases h
    · split at h
      · rename_i x1 a1 A1 h1
        cases h
        refine wpS_of_wp (wpIn_wide.1 (evC_ok (ro := none) hcall hsame hdr n _ a A μ b w _ _ _ _ h1 W hab rfl fun e b' w' ⟨μ', q1, q2, q3, q4⟩ => ?_))
        exact hq _ _ _ _ μ' q1 q2 (hm.mono q4.le) q3 q4
      · cases h
end Ev
end Go.Proofs.Ytkjnaamlhkldmab
