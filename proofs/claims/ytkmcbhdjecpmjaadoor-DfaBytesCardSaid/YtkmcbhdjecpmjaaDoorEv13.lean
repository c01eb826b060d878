import Derived.Test.YtkmcbhdjecpmjaaDoorEv12
import Derived.Scope
namespace Go.Proofs.YtkmcbhdjecpmjaaDoor
namespace Ev
variable {P : Program} {μ : Mu} {A : AW} {w : World}

def inLoopWp (P : Program) (c : Code) (Q : Exit → Act → World → Prop) (a : Act) (w : World) : Prop :=
  ∀ (b : Frame) (k : List Item) (cs : List Frame), ∃ e a' w', Q e a' w' ∧ Arrives P (lone (b.at a (.inLoop c :: k)) cs w) b k cs e a' w'
theorem round_arrives {c : Code} {Q : Exit → Act → World → Prop} {a : Act} (h : c.wp P (Exit.then (inLoopWp P c Q) Q) a w) (b : Frame) (k : List Item) (cs : List Frame) :
    ∃ e a' w', Q e a' w' ∧ Arrives P (lone (b.at a (.code c :: .inLoop c :: k)) cs w) b k cs e a' w' := by
  obtain ⟨e, a₁, w₁, hq, harr⟩ := h b (.inLoop c :: k) cs
  cases e with
  | normal =>
    obtain ⟨e₂, a₂, w₂, hq₂, harr₂⟩ := hq b k cs
    exact ⟨e₂, a₂, w₂, hq₂, .of_steps harr harr₂⟩
  | exit id => exact ⟨_, a₁, w₁, hq, .pass (x := .inLoop c) rfl (fun _ _ => .inl (by simp)) harr⟩
  | goto l => exact ⟨_, a₁, w₁, hq, .pass (x := .inLoop c) rfl (fun _ _ => .inl (by simp)) harr⟩
  | ret => exact ⟨_, a₁, w₁, hq, .pass (x := .inLoop c) rfl (fun _ _ => .inl (by simp)) harr⟩
  | panic ch => exact ⟨_, a₁, w₁, hq, .pass (x := .inLoop c) rfl (fun _ _ => .inl (by simp)) harr⟩
  | outgrown => exact ⟨_, a₁, w₁, hq, .pass (x := .inLoop c) rfl (fun _ _ => .inl (by simp)) harr⟩
theorem inLoop_of {c : Code} {Q : Exit → Act → World → Prop} {a : Act} (h : c.wp P (Exit.then (inLoopWp P c Q) Q) a w) : inLoopWp P c Q a w := fun b k cs => by
  obtain ⟨e, a', w', hq, harr⟩ := round_arrives h b k cs
  exact ⟨e, a', w', hq, .of_steps (.one step_inLoop) harr⟩
theorem loop_of {c : Code} {Q : Exit → Act → World → Prop} {a : Act} (h : c.wp P (Exit.then (inLoopWp P c Q) Q) a w) : (Code.loop c).wp P Q a w := fun b k cs => by
  obtain ⟨e, a', w', hq, harr⟩ := round_arrives h b k cs
  exact ⟨e, a', w', hq, .of_steps (.one step_loop) harr⟩
abbrev DrawT := Array Oper → AA → AW → Except String (AA × AW)
def DrawOK (P : Program) (dr : DrawT) : Prop := ∀ ops a A a' A', dr ops a A = .ok (a', A') → ∀ (μ : Mu) (b : Act) (w : World) (id : Nat) (Q : Exit → Act → World → Prop), WR μ A w → AAR μ a b →
  (∀ b' w', QX μ A w .normal a' A' .normal b' w' → Q .normal b' w') → (Code.region id ops true).wp P Q b w
/-- What a scope's code does from within. -/
def inScopeWp (P : Program) (c rest : Code) (Q : Exit → Act → World → Prop) (a : Act) (w : World) : Prop :=
  ∀ (b : Frame) (k : List Item) (cs : List Frame), ∃ e a' w', Q e a' w' ∧ Arrives P (lone (b.at a (.code rest :: .inScope c :: k)) cs w) b k cs e a' w'
def scopePost (P : Program) (c : Code) (Q : Exit → Act → World → Prop) : Exit → Act → World → Prop
  | .goto l, a, w => (match findLabel c l with
    | some r => inScopeWp P c r Q a w
    | none => Q (.goto l) a w)
  | e, a, w => Q e a w
theorem scope_of {c : Code} {Q : Exit → Act → World → Prop} {a : Act} (h : inScopeWp P c c Q a w) : (Code.scope c).wp P Q a w := fun b k cs => by
  obtain ⟨e, a', w', hq, harr⟩ := h b k cs
  exact ⟨e, a', w', hq, .of_steps (.one step_scope) harr⟩
theorem inScope_of {c rest : Code} {Q : Exit → Act → World → Prop} {a : Act} (h : rest.wp P (scopePost P c Q) a w) : inScopeWp P c rest Q a w := fun b k cs => by
  obtain ⟨e, a₁, w₁, hq, harr⟩ := h b (.inScope c :: k) cs
  cases e with
  | normal => exact ⟨.normal, a₁, w₁, hq, Steps.trans harr (.one step_inScope)⟩
  | exit id => exact ⟨.exit id, a₁, w₁, hq, fun k' hk => harr k' (by simp [exitTo, hk])⟩
  | goto l =>
    simp only [scopePost] at hq
    cases hf : findLabel c l with
    | some r =>
      rw [hf] at hq
      obtain ⟨e₂, a₂, w₂, hq₂, harr₂⟩ := hq b k cs
      exact ⟨e₂, a₂, w₂, hq₂, .of_steps (harr _ (by simp [gotoIn, hf])) harr₂⟩
    | none =>
      rw [hf] at hq
      exact ⟨.goto l, a₁, w₁, hq, fun k' hk => harr k' (by simp [gotoIn, hf, hk])⟩
  | ret => exact ⟨_, a₁, w₁, hq, harr⟩
  | panic ch => exact ⟨_, a₁, w₁, hq, harr⟩
  | outgrown => exact ⟨_, a₁, w₁, hq, harr⟩
noncomputable def evK (P : Program) (call : CallT) (same : FuncId → Bool) (dr : DrawT) : Nat → Option Code → Code → AA → AW → Except String (AX × AA × AW)
  | 0, _, _, _, _ => .error "out of fuel"
  | n + 1, some c0, c, a, A => match evK P call same dr n none c a A with
    | .ok (.goto l, a', A') => match findLabel c0 l with
      | some rest => evK P call same dr n (some c0) rest a' A'
      | none => .ok (.goto l, a', A')
    | r => r
  | n + 1, none, c, a, A => match c with
    | .skip => .ok (.normal, a, A)
    | .label _ => .ok (.normal, a, A)
    | .region _ ops false => evOps P call same ops (List.range ops.size) a A
    | .region _ ops true => match dr ops a A with
      | .ok (a', A') => .ok (.normal, a', A')
      | .error s => .error s
    | .seq x y => match evK P call same dr n none x a A with
      | .ok (.normal, a', A') => evK P call same dr n none y a' A'
      | r => r
    | .cond c x y => match opv a.tmps c with
      | some (.bool true) => evK P call same dr n none x a A
      | some (.bool false) => evK P call same dr n none y a A
      | _ => .error "cond"
    | .block id x => match evK P call same dr n none x a A with
      | .ok (.exit id', a', A') => .ok (if id' = id then .normal else .exit id', a', A')
      | r => r
    | .loop x => match evK P call same dr n none x a A with
      | .ok (.normal, a', A') => evK P call same dr n none (.loop x) a' A'
      | r => r
    | .exit id => .ok (.exit id, a, A)
    | .ret => .ok (.ret, a, A)
    | .goto l => .ok (.goto l, a, A)
    | .scope x => evK P call same dr n (some x) x a A
    | _ => .error "this code is not served"
noncomputable def evC (P : Program) (call : CallT) (same : FuncId → Bool) (dr : DrawT) (n : Nat) (c : Code) (a : AA) (A : AW) : Except String (AX × AA × AW) := evK P call same dr n none c a A
theorem evK_ok {call : CallT} {same : FuncId → Bool} {dr : DrawT} (hcall : CallOK P call) (hsame : SameOK P same) (hdr : DrawOK P dr) : ∀ (n : Nat) (sc : Option Code) (c : Code) (a : AA) (A : AW) (μ : Mu) (b : Act) (w : World) (x : AX) (a' : AA) (A' : AW) (Q : Exit → Act → World → Prop), evK P call same dr n sc c a A = .ok (x, a', A') → WR μ A w → AAR μ a b →
    (∀ e b' w', QX μ A w x a' A' e b' w' → Q e b' w') → (sc = none → c.wp P Q b w ∧ (∀ y, c = .loop y → inLoopWp P y Q b w)) ∧ (∀ c0, sc = some c0 → inScopeWp P c0 c Q b w)
  | 0, _, _, _, _, _, _, _, _, _, _, _, h, _, _, _ => by simp only [evK] at h; cases h
  | n + 1, some c0, c, a, A, μ, b, w, x, a', A', Q, h, W, hab, hq => by
    have IH := evK_ok hcall hsame hdr n
    refine ⟨fun hh => (by cases hh), fun c1 hc => ?_⟩
    cases hc
    simp only [evK] at h
    split at h
    · rename_i l a1 A1 h1
      split at h
      · rename_i rest hf
        refine inScope_of ((IH none c a A μ b w (.goto l) a1 A1 _ h1 W hab fun e b' w' ⟨μ', q1, q2, q3, q4⟩ => ?_).1 rfl).1
        simp only [XR] at q1; subst q1
        simp only [scopePost, hf]
        exact (IH (some c0) rest a1 A1 μ' b' w' x a' A' Q h q3 q2 fun e b'' w'' ⟨μ'', r1, r2, r3, r4⟩ => hq _ _ _ ⟨μ'', r1, r2, r3, q4.trans r4⟩).2 c0 rfl
      · rename_i hf
        cases h
        refine inScope_of ((IH none c a A μ b w (.goto l) _ _ _ h1 W hab fun e b' w' hx => ?_).1 rfl).1
        have hx0 := hx
        obtain ⟨μ', q1, _⟩ := hx
        simp only [XR] at q1; subst q1
        simp only [scopePost, hf]
        exact hq _ _ _ hx0
    · rename_i r hr
      refine inScope_of ((IH none c a A μ b w x a' A' _ h W hab fun e b' w' hx => ?_).1 rfl).1
      have hx0 := hx
      obtain ⟨μ', q1, _⟩ := hx
      cases x with
      | goto l => exact absurd h (hr _ _ _)
      | normal => simp only [XR] at q1; subst q1; exact hq _ _ _ hx0
      | exit id => simp only [XR] at q1; subst q1; exact hq _ _ _ hx0
      | ret => simp only [XR] at q1; subst q1; exact hq _ _ _ hx0
      | panic v => simp only [XR] at q1; obtain ⟨v', rfl, q3⟩ := q1; exact hq _ _ _ hx0
  | n + 1, none, c, a, A, μ, b, w, x, a', A', Q, h, W, hab, hq => by
    have IH := evK_ok hcall hsame hdr n
    refine ⟨fun _ => ?_, fun c1 hc => (by cases hc)⟩
    simp only [evK] at h
    split at h
    · cases h; exact ⟨wp_skip (hq _ _ _ ⟨μ, rfl, hab, W, Ext.refl⟩), fun y hy => by cases hy⟩
    · cases h; exact ⟨wp_label (hq _ _ _ ⟨μ, rfl, hab, W, Ext.refl⟩), fun y hy => by cases hy⟩
    · exact ⟨wp_region (evOps_ok hcall hsame _ a A μ b w W hab h hq), fun y hy => by cases hy⟩
    · split at h
      · rename_i a1 A1 h1
        cases h
        exact ⟨hdr _ _ _ _ _ h1 μ b w _ Q W hab fun b' w' hx => hq _ _ _ hx, fun y hy => by cases hy⟩
      · cases h
    · rename_i y z
      refine ⟨wp_seq ?_, fun y hy => by cases hy⟩
      split at h
      · rename_i a1 A1 h1
        refine ((IH none y a A μ b w .normal a1 A1 _ h1 W hab fun e b' w' ⟨μ', q1, q2, q3, q4⟩ => ?_).1 rfl).1
        simp only [XR] at q1; subst q1
        exact ((IH none z a1 A1 μ' b' w' x a' A' Q h q3 q2 fun e b'' w'' ⟨μ'', r1, r2, r3, r4⟩ => hq _ _ _ ⟨μ'', r1, r2, r3, q4.trans r4⟩).1 rfl).1
      · rename_i r hr
        refine ((IH none y a A μ b w x a' A' _ h W hab fun e b' w' hx => ?_).1 rfl).1
        cases x with
        | normal => exact absurd h (hr _ _)
        | exit id => obtain ⟨μ', q1, q2⟩ := hx; simp only [XR] at q1; subst q1; exact hq _ _ _ ⟨μ', rfl, q2⟩
        | goto l => obtain ⟨μ', q1, q2⟩ := hx; simp only [XR] at q1; subst q1; exact hq _ _ _ ⟨μ', rfl, q2⟩
        | ret => obtain ⟨μ', q1, q2⟩ := hx; simp only [XR] at q1; subst q1; exact hq _ _ _ ⟨μ', rfl, q2⟩
        | panic v => obtain ⟨μ', q1, q2⟩ := hx; simp only [XR] at q1; obtain ⟨v', rfl, q3⟩ := q1; exact hq _ _ _ ⟨μ', ⟨v', rfl, q3⟩, q2⟩
    · rename_i cc y z
      split at h
      · rename_i hc
        have := opv_ok hab.tmps hc
        simp only [VR] at this
        exact ⟨wp_cond_true this ((IH none y a A μ b w x a' A' Q h W hab hq).1 rfl).1, fun y hy => by cases hy⟩
      · rename_i hc
        have := opv_ok hab.tmps hc
        simp only [VR] at this
        exact ⟨wp_cond_false this ((IH none z a A μ b w x a' A' Q h W hab hq).1 rfl).1, fun y hy => by cases hy⟩
      · cases h
    · rename_i id y
      refine ⟨wp_block ?_, fun y hy => by cases hy⟩
      split at h
      · rename_i id' a1 A1 h1
        cases h
        refine ((IH none y a A μ b w (.exit id') a' A' _ h1 W hab fun e b' w' ⟨μ', q1, q2⟩ => ?_).1 rfl).1
        simp only [XR] at q1; subst q1
        simp only [Exit.inBlock]
        by_cases e : id' = id
        · rw [if_pos e]; exact hq _ _ _ ⟨μ', by rw [if_pos e]; rfl, q2⟩
        · rw [if_neg e]; exact hq _ _ _ ⟨μ', by rw [if_neg e]; rfl, q2⟩
      · rename_i r hr
        refine ((IH none y a A μ b w x a' A' _ h W hab fun e b' w' hx => ?_).1 rfl).1
        cases x with
        | exit id => exact absurd h (hr _ _ _)
        | normal => obtain ⟨μ', q1, q2⟩ := hx; simp only [XR] at q1; subst q1; exact hq _ _ _ ⟨μ', rfl, q2⟩
        | goto l => obtain ⟨μ', q1, q2⟩ := hx; simp only [XR] at q1; subst q1; exact hq _ _ _ ⟨μ', rfl, q2⟩
        | ret => obtain ⟨μ', q1, q2⟩ := hx; simp only [XR] at q1; subst q1; exact hq _ _ _ ⟨μ', rfl, q2⟩
        | panic v => obtain ⟨μ', q1, q2⟩ := hx; simp only [XR] at q1; obtain ⟨v', rfl, q3⟩ := q1; exact hq _ _ _ ⟨μ', ⟨v', rfl, q3⟩, q2⟩
    · rename_i y
      have hbody : y.wp P (Exit.then (inLoopWp P y Q) Q) b w := by
        split at h
        · rename_i a1 A1 h1
          refine ((IH none y a A μ b w .normal a1 A1 _ h1 W hab fun e b' w' ⟨μ', q1, q2, q3, q4⟩ => ?_).1 rfl).1
          simp only [XR] at q1; subst q1
          exact ((IH none (.loop y) a1 A1 μ' b' w' x a' A' Q h q3 q2 fun e b'' w'' ⟨μ'', r1, r2, r3, r4⟩ => hq _ _ _ ⟨μ'', r1, r2, r3, q4.trans r4⟩).1 rfl).2 y rfl
        · rename_i r hr
          refine ((IH none y a A μ b w x a' A' _ h W hab fun e b' w' hx => ?_).1 rfl).1
          cases x with
          | normal => exact absurd h (hr _ _)
          | exit id => obtain ⟨μ', q1, q2⟩ := hx; simp only [XR] at q1; subst q1; exact hq _ _ _ ⟨μ', rfl, q2⟩
          | goto l => obtain ⟨μ', q1, q2⟩ := hx; simp only [XR] at q1; subst q1; exact hq _ _ _ ⟨μ', rfl, q2⟩
          | ret => obtain ⟨μ', q1, q2⟩ := hx; simp only [XR] at q1; subst q1; exact hq _ _ _ ⟨μ', rfl, q2⟩
          | panic v => obtain ⟨μ', q1, q2⟩ := hx; simp only [XR] at q1; obtain ⟨v', rfl, q3⟩ := q1; exact hq _ _ _ ⟨μ', ⟨v', rfl, q3⟩, q2⟩
      exact ⟨loop_of hbody, fun z hz => by cases hz; exact inLoop_of hbody⟩
    · cases h; exact ⟨wp_exit (hq _ _ _ ⟨μ, rfl, hab, W, Ext.refl⟩), fun y hy => by cases hy⟩
    · cases h; exact ⟨wp_ret (hq _ _ _ ⟨μ, rfl, hab, W, Ext.refl⟩), fun y hy => by cases hy⟩
    · cases h; exact ⟨wp_goto (hq _ _ _ ⟨μ, rfl, hab, W, Ext.refl⟩), fun y hy => by cases hy⟩
    · rename_i y
      exact ⟨scope_of ((IH (some y) y a A μ b w x a' A' Q h W hab hq).2 y rfl), fun y hy => by cases hy⟩
    · cases h
theorem evC_ok {call : CallT} {same : FuncId → Bool} {dr : DrawT} (hcall : CallOK P call) (hsame : SameOK P same) (hdr : DrawOK P dr) (n : Nat) (c : Code) (a : AA) (A : AW) (μ : Mu) (b : Act) (w : World) (x : AX) (a' : AA) (A' : AW) (Q : Exit → Act → World → Prop) (h : evC P call same dr n c a A = .ok (x, a', A')) (W : WR μ A w) (hab : AAR μ a b)
    (hq : ∀ e b' w', QX μ A w x a' A' e b' w' → Q e b' w') : c.wp P Q b w ∧ (∀ y, c = .loop y → inLoopWp P y Q b w) := (evK_ok hcall hsame hdr n none c a A μ b w x a' A' Q h W hab hq).1 rfl
/-! deferred calls -/
inductive AM where
  | ret
  | pan (v : Value)
  | recd (v : Value)
def MoR (μ : Mu) : AM → FrameMode → Prop
  | .ret, m => m = .returning
  | .pan v, m => ∃ v', m = .panicking [{ v := v', recovered := false }] ∧ VR μ v v'
  | .recd v, m => ∃ v', m = .panicking [{ v := v', recovered := true }] ∧ VR μ v v'
theorem MoR.mono {μ μ' : Mu} (h : Le μ μ') : ∀ {u : AM} {m : FrameMode}, MoR μ u m → MoR μ' u m
  | .ret, _, r => r
  | .pan _, _, r => by obtain ⟨v', h1, h2⟩ := r; exact ⟨v', h1, h2.mono h⟩
  | .recd _, _, r => by obtain ⟨v', h1, h2⟩ := r; exact ⟨v', h1, h2.mono h⟩
def isRec : Op → Bool
  | .call { callee := .builtin .recover, args := _, argTypes := _ } => true
  | _ => false
noncomputable def evOpsS (P : Program) (call : CallT) (same : FuncId → Bool) (ops : Array Oper) : List Nat → AA → AM → AW → Except String (AX × AA × AM × AW)
  | [], a, u, A => .ok (.normal, a, u, A)
  | i :: r, a, u, A => match ops[i]? with
    | none => .error "no such operation"
    | some o => match wantedE ops a.tmps o with
      | some true => if isRec o.op then
          match u with
          | .pan v => fPutE a o.dst v fun a' => evOpsS P call same ops r a' (.recd v) A
          | _ => fPutE a o.dst .nilIface fun a' => evOpsS P call same ops r a' u A
        else match evOp1 P call same o a A with
        | .ok (.val v, A') => fV v fun v => fPutE a o.dst v fun a' => fW A' fun A' => evOpsS P call same ops r a' u A'
        | .ok (.dfr _, _) => .error "defer in a deferred call"
        | .ok (.panic v, A') => fV v fun v => fW A' fun A' => .ok (.panic v, a, u, A')
        | .error s => .error s
      | some false => fPutE a o.dst undef fun a' => evOpsS P call same ops r a' u A
      | none => .error ("guard: " ++ o.pos)
def QS (c0 : Frame) (cs0 : List Frame) (Q : Exit → Act → List Frame → World → Prop) (μ : Mu) (A : AW) (w : World) (x : AX) (a' : AA) (u' : AM) (A' : AW) : Prop :=
  ∀ e b' m' w' μ', XR μ' x e → AAR μ' a' b' → MoR μ' u' m' → WR μ' A' w' → Ext μ A w μ' A' w' → Q e b' ({ c0 with mode := m' } :: cs0) w'
theorem evOpsS_ok {call : CallT} {same : FuncId → Bool} (hcall : CallOK P call) (hsame : SameOK P same) {ops : Array Oper} {c0 : Frame} {cs0 : List Frame} {Q : Exit → Act → List Frame → World → Prop} {x : AX} {a' : AA} {u' : AM} {A' : AW} : ∀ (l : List Nat) (a : AA) (u : AM) (A : AW) (μ : Mu) (b : Act) (m : FrameMode) (w : World), WR μ A w → AAR μ a b → MoR μ u m →
    evOpsS P call same ops l a u A = .ok (x, a', u', A') → QS c0 cs0 Q μ A w x a' u' A' → wpOpsS P ops Q l b ({ c0 with mode := m } :: cs0) w
  | [], a, u, A, μ, b, m, w, W, hab, hm, h, hq => by
    simp only [evOpsS] at h; cases h
    simp only [wpOpsS]
    exact hq _ _ _ _ _ rfl hab hm W Ext.refl
  | i :: r, a, u, A, μ, b, m, w, W, hab, hm, h, hq => by
    have qtrans : ∀ {μ1 : Mu} {A1 : AW} {w1 : World}, Ext μ A w μ1 A1 w1 → QS c0 cs0 Q μ1 A1 w1 x a' u' A' := fun E => fun e b' m' w' μ' h1 h2 h3 h4 h5 => hq e b' m' w' μ' h1 h2 h3 h4 (E.trans h5)
    simp only [evOpsS] at h
    split at h
    · cases h
    · rename_i o ho
      simp only [wpOpsS, ho]
      split at h
      · rename_i hw
        rw [wantedE_ok hab hw, if_pos rfl]
        split at h
        · rename_i hr
          have hrun : (execOp b.eval o).run P w = .ok .recover w := by
            unfold isRec at hr
            split at hr
            · rename_i heq
              simp only [execOp, heq, resolve, Sem.run_bind, Sem.run_pure, Result.andThen, invoke, builtin]
            · cases hr
          rw [hrun]
          simp only
          split at h
          · rename_i v
            rw [fPutE_eq] at h
            obtain ⟨v', rfl, hv⟩ := hm
            simp only [recoverD]
            exact evOpsS_ok hcall hsame r _ (.recd v) A μ _ (.panicking [{ v := v', recovered := true }]) w W (hab.put _ hv) ⟨v', rfl, hv⟩ h hq
          · rename_i hnp
            rw [fPutE_eq] at h
            have hrec : recoverD ({ c0 with mode := m } :: cs0) = none := by
              cases u with
              | ret => simp only [MoR] at hm; subst hm; rfl
              | pan v => exact absurd rfl (hnp v)
              | recd v => obtain ⟨v', rfl, hv⟩ := hm; rfl
            rw [hrec]
            exact evOpsS_ok hcall hsame r _ u A μ _ m w W (hab.put _ (by simp [VR])) hm h hq
        · have hup : ∀ (K : Act → World → Prop) (Q' : Exit → Act → World → Prop), o.wp P b w K Q' → (match (execOp b.eval o).run P w with
              | .ok .recover w' => (match recoverD ({ c0 with mode := m } :: cs0) with
                | some (v, cs') => wpOpsS P ops Q r (b.put o.dst v) cs' w'
                | none => wpOpsS P ops Q r (b.put o.dst .nilIface) ({ c0 with mode := m } :: cs0) w')
              | rr => o.upon P b K Q' rr) := fun K Q' hh => by
            unfold Oper.wp at hh
            generalize (execOp b.eval o).run P w = rr at hh
            split
            · exact hh.elim
            · exact hh
          split at h
          · rename_i v A1 h1
            rw [fV_eq, fPutE_eq, fW_eq] at h
            refine hup _ _ (evOp1_ok hcall hsame W hab h1 (fun v2 hv2 μ' v' w' hv' W' E' => ?_) (fun d hd => by cases hd) (fun v hv => by cases hv))
            cases hv2
            exact evOpsS_ok hcall hsame r _ u _ μ' _ m w' W'.lay ((hab.mono E'.le).put _ hv') (hm.mono E'.le) h (qtrans E'.lay)
          · cases h
          · rename_i v A1 h1
            rw [fV_eq, fW_eq] at h
            cases h
            refine hup _ _ (evOp1_ok hcall hsame W hab h1 (fun v2 hv2 => by cases hv2) (fun d hd => by cases hd) (fun v hv μ' v' w' hv' W' E' => ?_))
            cases hv
            exact hq _ _ _ _ μ' ⟨v', rfl, hv'⟩ (hab.mono E'.le) (hm.mono E'.le) W'.lay E'.lay
          · cases h
      · rename_i hw
        rw [wantedE_ok hab hw, if_neg (by simp)]
        rw [fPutE_eq] at h
        exact evOpsS_ok hcall hsame r _ u A μ _ m w W (hab.put _ VR_undef) hm h hq
      · cases h
noncomputable def evS (P : Program) (call : CallT) (same : FuncId → Bool) (dr : DrawT) : Nat → Code → AA → AM → AW → Except String (AX × AA × AM × AW)
  | 0, _, _, _, _ => .error "out of fuel"
  | n + 1, c, a, u, A => match c with
    | .region _ ops false => evOpsS P call same ops (List.range ops.size) a u A
    | .seq x y => match evS P call same dr n x a u A with
      | .ok (.normal, a', u', A') => evS P call same dr n y a' u' A'
      | r => r
    | .cond c x y => match opv a.tmps c with
      | some (.bool true) => evS P call same dr n x a u A
      | some (.bool false) => evS P call same dr n y a u A
      | _ => .error "cond"
    | c => match evC P call same dr n c a A with
      | .ok (x, a', A') => .ok (x, a', u, A')
      | .error s => .error s
theorem evS_ok {call : CallT} {same : FuncId → Bool} {dr : DrawT} (hcall : CallOK P call) (hsame : SameOK P same) (hdr : DrawOK P dr) {c0 : Frame} {cs0 : List Frame} : ∀ (n : Nat) (c : Code) (a : AA) (u : AM) (A : AW) (μ : Mu) (b : Act) (m : FrameMode) (w : World) (x : AX) (a' : AA) (u' : AM) (A' : AW) (Q : Exit → Act → List Frame → World → Prop), evS P call same dr n c a u A = .ok (x, a', u', A') → WR μ A w → AAR μ a b → MoR μ u m →
    QS c0 cs0 Q μ A w x a' u' A' → c.wpS P Q b ({ c0 with mode := m } :: cs0) w
  | 0, _, _, _, _, _, _, _, _, _, _, _, _, _, h, _, _, _, _ => by cases h
  | n + 1, c, a, u, A, μ, b, m, w, x, a', u', A', Q, h, W, hab, hm, hq => by
    have IH := evS_ok (c0 := c0) (cs0 := cs0) hcall hsame hdr n
    have qtrans : ∀ {μ1 : Mu} {A1 : AW} {w1 : World}, Ext μ A w μ1 A1 w1 → QS c0 cs0 Q μ1 A1 w1 x a' u' A' := fun E => fun e b' m' w' μ' h1 h2 h3 h4 h5 => hq e b' m' w' μ' h1 h2 h3 h4 (E.trans h5)
    unfold evS at h
    split at h
    · exact wpS_region (evOpsS_ok hcall hsame _ a u A μ b m w W hab hm h hq)
    · rename_i y z
      refine wpS_seq ?_
      split at h
      · rename_i a1 u1 A1 h1
        refine IH y a u A μ b m w .normal a1 u1 A1 _ h1 W hab hm fun e b' m' w' μ' q1 q2 q3 q4 q5 => ?_
        simp only [XR] at q1; subst q1
        exact IH z a1 u1 A1 μ' b' m' w' x a' u' A' Q h q4 q2 q3 (qtrans q5)
      · rename_i r hr
        refine IH y a u A μ b m w x a' u' A' _ h W hab hm fun e b' m' w' μ' q1 q2 q3 q4 q5 => ?_
        cases x with
        | normal => exact absurd h (hr _ _ _)
        | exit id => simp only [XR] at q1; subst q1; exact hq _ _ _ _ μ' rfl q2 q3 q4 q5
        | goto l => simp only [XR] at q1; subst q1; exact hq _ _ _ _ μ' rfl q2 q3 q4 q5
        | ret => simp only [XR] at q1; subst q1; exact hq _ _ _ _ μ' rfl q2 q3 q4 q5
        | panic v => simp only [XR] at q1; obtain ⟨v', rfl, q6⟩ := q1; exact hq _ _ _ _ μ' ⟨v', rfl, q6⟩ q2 q3 q4 q5
    · rename_i cc y z
      split at h
      · rename_i hc
        have := opv_ok hab.tmps hc
        simp only [VR] at this
        exact wpS_cond this (IH y a u A μ b m w x a' u' A' Q h W hab hm hq)
      · rename_i hc
        have := opv_ok hab.tmps hc
        simp only [VR] at this
        exact wpS_cond this (IH z a u A μ b m w x a' u' A' Q h W hab hm hq)
      · cases h
    · split at h
      · rename_i x1 a1 A1 h1
        cases h
        refine wpS_of_wp (evC_ok hcall hsame hdr n _ a A μ b w _ _ _ _ h1 W hab fun e b' w' ⟨μ', q1, q2, q3, q4⟩ => ?_).1
        exact hq _ _ _ _ μ' q1 q2 (hm.mono q4.le) q3 q4
      · cases h
end Ev
end Go.Proofs.YtkmcbhdjecpmjaaDoor
