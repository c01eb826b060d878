import Derived.Test.YtkjnaamlhkldmabEvN
import Derived.RangeFuncRecord
import Derived.RangeFuncCalls
namespace Go.Proofs.Ytkjnaamlhkldmab
namespace Ev
variable {P : Program} {μ : Mu} {A : AW} {w : World}

inductive ADef where
  | fn (f : FuncId) (cap : List Value) (args : List Value)
  | mark (i : Nat)
structure AA where
  tmps : Env
  size : Nat
  defers : List ADef
inductive AX where
  | normal
  | exit (id : Nat)
  | goto (l : Nat)
  | ret
  | panic (v : Value)
inductive AE where
  | ret (v : Value)
  | panic (v : Value)
def DR (μ : Mu) : List ADef → List Deferred → Prop
  | [], l => l = []
  | .fn f cap args :: ds, l => ∃ cap' args' r, l = { target := .fn (.func f) cap', args := args' } :: r ∧ LR μ cap cap'.toList ∧ LR μ args args'.toList ∧ DR μ ds r
  | .mark i :: ds, l => ∃ lo r, l = { target := .collected lo.b, args := #[] } :: r ∧ μ i = some lo ∧ DR μ ds r
theorem DR.mono {μ μ' : Mu} (h : Le μ μ') : ∀ {ds : List ADef} {l : List Deferred}, DR μ ds l → DR μ' ds l
  | [], _, r => by simpa [DR] using r
  | .fn _ _ _ :: ds, _, r => by
    simp only [DR] at r ⊢
    obtain ⟨c, a, r, h1, h2, h3, h4⟩ := r
    exact ⟨c, a, r, h1, h2.mono h, h3.mono h, h4.mono h⟩
  | .mark i :: ds, _, r => by
    simp only [DR] at r ⊢
    obtain ⟨lo, r, h1, h2, h3⟩ := r
    exact ⟨lo, r, h1, h _ _ h2, h3.mono h⟩
structure AAR (μ : Mu) (a : AA) (b : Act) : Prop where
  tmps : TR μ a.tmps b.tmps.toList
  len : a.size = b.tmps.size
  defers : DR μ a.defers b.defers
theorem AAR.mono {μ μ' : Mu} (h : Le μ μ') {a : AA} {b : Act} (r : AAR μ a b) : AAR μ' a b := ⟨r.tmps.mono h, r.len, r.defers.mono h⟩
noncomputable def AA.put (a : AA) (dst : Option Tmp) (v : Value) : AA :=
  match dst with
  | some d => if Nat.ble (Nat.succ d) a.size then { a with tmps := a.tmps.put (some v) (d + 1) d } else a
  | none => a
theorem AAR.put {a : AA} {b : Act} {v v' : Value} (r : AAR μ a b) (dst : Option Tmp) (hv : VR μ v v') : AAR μ (a.put dst v) (b.put dst v') := by
  cases dst with
  | none => exact r
  | some d =>
    simp only [AA.put]
    split
    · rename_i hd
      have hlt : d < a.size := Nat.le_of_ble_eq_true hd
      refine ⟨fun t u hu => ?_, by simp [Act.put, r.len], r.defers⟩
      simp only [Act.put, Array.toList_setIfInBounds] at hu ⊢
      rw [Tr.get_put _ _ _ _ _ (by omega)] at hu
      rw [List.getElem?_set]
      split at hu
      · rename_i e
        subst e
        cases hu
        exact ⟨v', by rw [if_pos rfl, if_pos (by simpa [← r.len] using hlt)], hv⟩
      · rename_i e
        rw [if_neg (fun h => e h.symm)]
        exact r.tmps t u hu
    · rename_i hd
      have hge : ¬ d < b.tmps.size := fun h => hd (by rw [← r.len] at h; exact Nat.ble_eq_true_of_le h)
      have : b.put (some d) v' = b := by
        simp only [Act.put]
        rw [Array.setIfInBounds_eq_of_size_le (Nat.le_of_not_lt hge)]
      rw [this]
      exact r
def ER (μ : Mu) : AE → Ending → Prop
  | .ret v, .returned v' => VR μ v v'
  | .panic v, .panicked ch => ∃ v', ch = [{ v := v', recovered := false }] ∧ VR μ v v'
  | _, _ => False
/-- A call: of a function; of a yield (by its loop's number). -/
abbrev CallT := Bool → Nat → List Value → AW → Except String (AE × AW)
def FunOK (P : Program) (call : CallT) : Prop := ∀ (f : FuncId) args A e A', call false f args A = .ok (e, A') → ∀ (μ : Mu) (w : World) (args' : Array Value), WR μ A w → LR μ args args'.toList →
  Calls P f args' w fun e' w' => ∃ μ', ER μ' e e' ∧ WR μ' A' w' ∧ Ext μ A w μ' A' w'
def RndOK (P : Program) (call : CallT) : Prop := ∀ (r : Nat) args A e A', call true r args A = .ok (e, A') → ∀ (μ : Mu) (w : World) (args' : Array Value) (l : Loc), WR μ A w → LR μ args args'.toList → μ r = some l →
  ∃ q : Loop, w.heap[l.b]? = some (.loop q) ∧ args'.size = q.params.size ∧ RoundIn Fence.wide 0 P l.b q.fn ((q.params.zip args').foldl (fun tmps (t, a) => tmps.setIfInBounds t a) q.tmps) q.assign q.body w fun e' w' => ∃ μ', ER μ' e e' ∧ WR μ' A' w' ∧ Ext μ A w μ' A' w'
structure CallOK (P : Program) (call : CallT) : Prop where
  fn : FunOK P call
  rnd : RndOK P call
/-- Within a function; within a round of the loop whose record is that block. -/
def FR (ro : Option Nat) : Fence := { fn := fun _ => True, depth := none, alive := false, round := ro }
theorem FR_calls {ro : Option Nat} {f : FuncId} {args : Array Value} {R : Ending → World → Prop} (h : Calls P f args w R) : CallsIn (FR ro) 0 P f args w R :=
  show CallsIn Fence.wide 0 P f args w R from callsIn_wide.2 h
def RO (μ : Mu) (rd ro : Option Nat) : Prop :=
  match rd with
  | none => ro = none
  | some r => ∃ l, μ r = some l ∧ ro = some l.b
theorem RO.mono {μ μ' : Mu} (h : Le μ μ') {rd ro : Option Nat} (r : RO μ rd ro) : RO μ' rd ro := by
  cases rd with
  | none => exact r
  | some i => obtain ⟨l, h1, h2⟩ := r; exact ⟨l, h _ _ h1, h2⟩
theorem operIn_of {ro : Option Nat} {Q : Exit → Act → World → Prop} {o : Oper} {a : Act} {w : World} {K : Act → World → Prop} (hnd : ro = none ∨ ∀ c, o.op ≠ .defer c) (h : o.wp P a w K Q) : o.wpIn (FR ro) 0 P a w K Q := by
  unfold Oper.wpIn
  refine ⟨fun _ _ => trivial, ?_⟩
  have hs : o.semAt (FR ro).round a.eval = execOp a.eval o := by
    rcases hnd with rfl | hnd
    · rfl
    · exact Oper.semAt_eq _ _ _ hnd
  rw [hs]
  unfold Oper.wp at h
  generalize (execOp a.eval o).run P w = r at *
  cases r with
  | ok x w' =>
    cases x <;> simp only [Oper.uponIn, Oper.upon] at h ⊢
    case value => exact h
    case skip => exact h
    case defer => exact h
    case enter => exact ⟨fun hd => by simp [FR] at hd, FR_calls h⟩
    case row => exact ⟨fun hd => by simp [FR] at hd, fun c cs _ => let ⟨v, w', r, s⟩ := h c cs; ⟨v, w', r, (stepsIn_wide.2 s : StepsIn (Machine.fenced P Fence.wide) P _ _)⟩⟩
  | halt x w' => cases x <;> simp only [Oper.uponIn, Oper.upon] at h ⊢ <;> exact h
/-- Functions without a body that hang on their arguments alone, and change nothing. -/
abbrev XT := FuncId → Option (List Value → Option Value)
def SameOK (P : Program) (same : XT) : Prop := ∀ g fnc, same g = some fnc → ∃ fn impl, P.funcs[g]? = some fn ∧ fn.body = none ∧ (fn.name == "runtime.NumGoroutine") = false ∧ Extern.findNext fn = none ∧ Extern.find fn = some impl ∧
  ∀ args v, fnc args = some v → ∀ (μ : Mu) (args' : Array Value) (w : World), LR μ args args'.toList → ∃ v', (impl args').run P w = .ok v' w ∧ VR μ v v'
inductive O1 where
  | val (v : Value)
  | dfr (d : ADef)
  | panic (v : Value)
/-- One operation. -/
noncomputable def evOp0 (P : Program) (call : CallT) (same : XT) (o : Oper) (a : AA) (A : AW) : Except String (O1 × AW) :=
  match o.op with
  | .call { callee := .value f, args := args, argTypes := _ } => match opv a.tmps f, opvs a.tmps args.toList with
    | some (.func (.func g) ⟨first⟩ ⟨cap⟩), some vs =>
      (match same g with
      | some fnc => (match fnc (first ++ vs ++ cap) with
        | some v => .ok (.val v, A)
        | none => .error "extern")
      | none => match P.funcs[g]? with
        | some fn => if fn.body.isSome ∧ (fn.name == "runtime.NumGoroutine") = false then
            match call false g (first ++ vs ++ cap) A with
            | .ok (.ret v, A') => .ok (.val v, A')
            | .ok (.panic v, A') => .ok (.panic v, A')
            | .error s => .error s
          else .error ("no body: " ++ fn.name)
        | none => .error "no such function")
    | _, _ => .error ("callee: " ++ o.pos)
  | .defer { callee := .value f, args := args, argTypes := _ } => match opv a.tmps f, opvs a.tmps args.toList with
    | some (.func (.func g) ⟨first⟩ ⟨cap⟩), some vs => .ok (.dfr (.fn g cap (first ++ vs)), A)
    | _, _ => .error ("defer: " ++ o.pos)
  | .panic x => match opv a.tmps x with
    | some (.iface t v) => .ok (.panic (.iface t v), A)
    | _ => .error ("panic: " ++ o.pos)
  | _ => match aOp P a.tmps o A with
    | some (v, A') => .ok (.val v, A')
    | none => .error ("op: " ++ o.pos)
theorem toList_append3 (x y z : Array Value) : (x ++ y ++ z).toList = x.toList ++ y.toList ++ z.toList := by simp
theorem evOp0_ok {call : CallT} {same : XT} (hcall : CallOK P call) (hsame : SameOK P same) {o : Oper} {a : AA} {b : Act} {A' : AW} {r : O1} {K : Act → World → Prop} {Q : Exit → Act → World → Prop} (W : WR μ A w) (hab : AAR μ a b)
    (h : evOp0 P call same o a A = .ok (r, A'))
    (hn : ∀ v, r = .val v → ∀ μ' v' w', VR μ' v v' → WR μ' A' w' → Ext μ A w μ' A' w' → K (b.put o.dst v') w')
    (hd : ∀ d, r = .dfr d → ∀ b', AAR μ ({ a with defers := d :: a.defers }.put o.dst undef) b' → WR μ A' w → Ext μ A w μ A' w → K b' w)
    (hp : ∀ v, r = .panic v → ∀ μ' v' w', VR μ' v v' → WR μ' A' w' → Ext μ A w μ' A' w' → Q (.panic [{ v := v', recovered := false }]) b w') : o.wp P b w K Q := by
  unfold evOp0 at h
  unfold Oper.wp
  split at h
  · rename_i f args ts ho
    split at h
    · rename_i g first cap vs hf hvs
      have hfv := opv_ok hab.tmps hf
      simp only [VR] at hfv
      obtain ⟨first', cap', hfe, hfl, hcl⟩ := hfv
      have hvl := opvs_ok hab.tmps hvs
      have hargs : LR μ (first ++ vs ++ cap) (first' ++ args.map b.eval ++ cap').toList := by
        rw [toList_append3, Array.toList_map]
        exact (hfl.append hvl).append hcl
      have hrun : (execOp b.eval o).run P w = (callFunc g (first' ++ args.map b.eval ++ cap')).run P w := by
        simp only [execOp, ho, resolve, hfe, Deferred.ofValue, Sem.run_bind, Sem.run_pure, Result.andThen, invoke]
      rw [hrun]
      split at h
      · rename_i fnc hs
        split at h
        · rename_i v hv
          cases h
          obtain ⟨fn, impl, h1, h2, h3, h4, h5, h6⟩ := hsame g fnc hs
          obtain ⟨v', h7, h8⟩ := h6 _ _ hv μ _ w hargs
          have h9 : (callFunc g (first' ++ args.map b.eval ++ cap')).run P w = .ok (.value v') w := by
            have h3' : ¬ fn.name = "runtime.NumGoroutine" := by simpa using h3
            generalize first' ++ args.map b.eval ++ cap' = xs at h7
            simp [callFunc, h1, h3', h2, h4, h5, h7]
          rw [h9, Oper.upon_value]
          exact hn _ rfl μ _ w h8 W Ext.refl
        · cases h
      · split at h
        · rename_i fn hfn
          split at h
          · rename_i hb
            have hne : fn.body.isNone = false := by
              cases hbb : fn.body with
              | none => rw [hbb] at hb; simp at hb
              | some c => rfl
            have h9 : (callFunc g (first' ++ args.map b.eval ++ cap')).run P w = .ok (.enter g (first' ++ args.map b.eval ++ cap')) w := by
              simp only [callFunc, Sem.run_bind, run_program, Result.andThen, hfn, hb.2, Bool.false_eq_true, if_false, hne, Sem.run_pure]
            rw [h9, Oper.upon_enter]
            split at h
            · rename_i v A1 hc
              cases h
              refine (hcall.fn _ _ _ _ _ hc μ w _ W hargs).mono fun e w' ⟨μ', he, W', E'⟩ => ?_
              cases e with
              | returned v' => exact hn _ rfl μ' _ w' he W' E'
              | panicked ch => exact he.elim
              | outgrown => exact he.elim
            · rename_i v A1 hc
              cases h
              refine (hcall.fn _ _ _ _ _ hc μ w _ W hargs).mono fun e w' ⟨μ', he, W', E'⟩ => ?_
              cases e with
              | returned v' => exact he.elim
              | panicked ch =>
                obtain ⟨v', rfl, hv'⟩ := he
                exact hp _ rfl μ' v' w' hv' W' E'
              | outgrown => exact he.elim
            · cases h
          · cases h
        · cases h
    · cases h
  · rename_i f args ts ho
    split at h
    · rename_i g first cap vs hf hvs
      have hfv := opv_ok hab.tmps hf
      simp only [VR] at hfv
      obtain ⟨first', cap', hfe, hfl, hcl⟩ := hfv
      have hvl := opvs_ok hab.tmps hvs
      cases h
      have hrun : (execOp b.eval o).run P w = .ok (.defer { target := .fn (.func g) cap', args := first' ++ args.map b.eval }) w := by
        simp only [execOp, ho, resolve, hfe, Deferred.ofValue, Sem.run_bind, Sem.run_pure, Result.andThen]
      rw [hrun, Oper.upon_defer]
      have h2 : AAR μ { a with defers := ADef.fn g cap (first ++ vs) :: a.defers } { b with defers := { target := .fn (.func g) cap', args := first' ++ args.map b.eval } :: b.defers } := by
        refine ⟨hab.tmps, hab.len, ?_⟩
        simp only [DR]
        exact ⟨cap', _, _, rfl, hcl, by rw [Array.toList_append, Array.toList_map]; exact hfl.append hvl, hab.defers⟩
      exact hd _ rfl _ (h2.put _ VR_undef) W Ext.refl
    · cases h
  · rename_i x ho
    split at h
    · rename_i t v hx
      cases h
      have hxv := opv_ok hab.tmps hx
      have hxv' := hxv
      simp only [VR] at hxv
      obtain ⟨v', he, hv⟩ := hxv
      have hrun : (execOp b.eval o).run P w = .halt (.panic (.iface t v')) w := by
        simp only [execOp, ho, he, Instr.panic, goPanic, Sem.run_bind, Sem.run_halt, Result.andThen]
      rw [hrun, Oper.upon_panic]
      exact hp _ rfl μ _ w (by rw [← he]; exact hxv') W Ext.refl
    · cases h
  · split at h
    · rename_i v A1 hop
      cases h
      obtain ⟨μ', v', w', hres, hv, W', E'⟩ := aOp_ok W hab.tmps hop
      rcases hres with hr | ⟨hr, rfl⟩
      · rw [hr, Oper.upon_value]
        exact hn _ rfl μ' _ w' hv W' E'
      · rw [hr, Oper.upon_skip]
        exact hn _ rfl μ' _ w' hv W' E'
    · cases h
/-- What is called, if it is a yield. -/
noncomputable def yieldOf (l : Env) (o : Oper) : Option (Nat × List Operand) :=
  match o.op with
  | .call { callee := .value f, args := ⟨xs⟩, argTypes := _ } => match opv l f with
    | some (.func (.yield r) _ _) => some (r, xs)
    | _ => none
  | _ => none
noncomputable def evOp1 (P : Program) (call : CallT) (same : XT) (rd : Option Nat) (o : Oper) (a : AA) (A : AW) : Except String (O1 × AW) :=
  match yieldOf a.tmps o with
  | some (r, xs) => match opvs a.tmps xs with
    | some vs => match call true r vs A with
      | .ok (.ret v, A') => .ok (.val v, A')
      | .ok (.panic _, _) => .error ("a panic in a round: " ++ o.pos)
      | .error s => .error s
    | none => .error ("yield: " ++ o.pos)
  | none => match rd, o.op with
    | some _, .defer _ => .error ("defer in a round: " ++ o.pos)
    | _, _ => evOp0 P call same o a A
theorem yieldOf_some {l : Env} {o : Oper} {r : Nat} {xs : List Operand} (h : yieldOf l o = some (r, xs)) : ∃ f ts x y, o.op = .call { callee := .value f, args := ⟨xs⟩, argTypes := ts } ∧ opv l f = some (.func (.yield r) x y) := by
  unfold yieldOf at h
  split at h
  · rename_i f ys ts ho
    split at h
    · rename_i r' x y hf
      cases h
      exact ⟨f, ts, x, y, ho, hf⟩
    · cases h
  · cases h
theorem evOp1_ok {call : CallT} {same : XT} (hcall : CallOK P call) (hsame : SameOK P same) {rd ro : Option Nat} {o : Oper} {a : AA} {b : Act} {A' : AW} {r : O1} {K : Act → World → Prop} {Q : Exit → Act → World → Prop} (W : WR μ A w) (hab : AAR μ a b) (hro : RO μ rd ro)
    (h : evOp1 P call same rd o a A = .ok (r, A'))
    (hn : ∀ v, r = .val v → ∀ μ' v' w', VR μ' v v' → WR μ' A' w' → Ext μ A w μ' A' w' → K (b.put o.dst v') w')
    (hd : ∀ d, r = .dfr d → ∀ b', AAR μ ({ a with defers := d :: a.defers }.put o.dst undef) b' → WR μ A' w → Ext μ A w μ A' w → K b' w)
    (hp : ∀ v, r = .panic v → ∀ μ' v' w', VR μ' v v' → WR μ' A' w' → Ext μ A w μ' A' w' → Q (.panic [{ v := v', recovered := false }]) b w') : o.wpIn (FR ro) 0 P b w K Q := by
  unfold evOp1 at h
  split at h
  · rename_i i xs hy
    obtain ⟨f, ts, x, y, ho, hf⟩ := yieldOf_some hy
    split at h
    · rename_i vs hvs
      have hfv := opv_ok hab.tmps hf
      simp only [VR] at hfv
      obtain ⟨_, _, l, hfe, hl⟩ := hfv
      have hvl := opvs_ok hab.tmps hvs
      have hvl2 : LR μ vs ((⟨xs⟩ : Array Operand).map b.eval).toList := by simpa using hvl
      split at h
      · rename_i v A1 hc
        cases h
        obtain ⟨q, hq1, hq2, hq3⟩ := hcall.rnd _ _ _ _ _ hc μ w _ l W hvl2 hl
        have hrun : (o.semAt (FR ro).round b.eval).run P w = .ok (.round l.b q.fn ((q.params.zip ((⟨xs⟩ : Array Operand).map b.eval)).foldl (fun tmps (t, a) => tmps.setIfInBounds t a) q.tmps) q.assign q.body) w := by
          rw [Oper.semAt_eq _ _ _ (fun c hc => by rw [ho] at hc; cases hc)]
          have e1 : (#[] : Array Value) ++ Array.map b.eval ⟨xs⟩ = Array.map b.eval ⟨xs⟩ := by simp
          simp only [execOp, ho, resolve, hfe, Deferred.ofValue, Sem.run_bind, Sem.run_pure, Result.andThen, invoke]
          rw [e1]
          exact run_yield hq1 hq2
        unfold Oper.wpIn
        refine ⟨fun _ _ => trivial, ?_⟩
        rw [hrun, Oper.uponIn_round]
        refine ⟨fun hd => by simp [FR] at hd, ?_⟩
        have : RoundIn Fence.wide 0 P l.b q.fn ((q.params.zip ((⟨xs⟩ : Array Operand).map b.eval)).foldl (fun tmps (t, a) => tmps.setIfInBounds t a) q.tmps) q.assign q.body w (fun
            | .returned v, w'' => K (b.put o.dst v) w''
            | .panicked chain, w'' => Q (.panic chain) b w''
            | .outgrown, _ => LetsOut Q) := hq3.mono fun e w' ⟨μ', he, W', E'⟩ => by
          cases e with
          | returned v' => exact hn _ rfl μ' _ w' he W' E'
          | panicked ch => exact he.elim
          | outgrown => exact he.elim
        exact this
      · cases h
      · cases h
    · cases h
  · split at h
    · cases h
    · rename_i hnd
      refine operIn_of ?_ (evOp0_ok hcall hsame W hab h hn hd hp)
      have key : ∀ rd : Option Nat, RO μ rd ro → (∀ (i : Nat) (c : Call), rd = some i → o.op = .defer c → False) → ro = none ∨ ∀ c, o.op ≠ .defer c := fun rd h1 h2 => by
        cases rd with
        | none => exact .inl h1
        | some i => exact .inr fun c hc => h2 i c rfl hc
      exact key _ hro hnd
/-! regions in the order of the text -/
/-- Whether an operation is wanted; none: that is not known. -/
noncomputable def wantedE (ops : Array Oper) (l : Env) (o : Oper) : Option Bool :=
  match o.guard with
  | none => some true
  | some (j, want) => match (ops[j]?).bind (·.dst) with
    | some t => match l.get t with
      | some (.bool b) => some (b == want)
      | some (.tuple _) => some false
      | _ => none
    | none => none
theorem wantedE_ok {ops : Array Oper} {a : AA} {b : Act} {o : Oper} {r : Bool} (hab : AAR μ a b) (h : wantedE ops a.tmps o = some r) : Region.wanted o (yielded ops b.tmps) = r := by
  unfold wantedE at h
  unfold Region.wanted
  split at h
  · rename_i hg; cases h; rw [hg]
  · rename_i j want hg
    rw [hg]
    split at h
    · rename_i t ht
      split at h
      · rename_i b' hb
        cases h
        obtain ⟨v', h1, h2⟩ := hab.tmps t _ hb
        simp only [VR] at h2; subst h2
        have : b.tmps[t]? = some (.bool b') := by rw [← Array.getElem?_toList]; exact h1
        simp only [yielded, ht, Option.bind_some, this]
        cases b' <;> cases want <;> rfl
      · rename_i xs hb
        cases h
        obtain ⟨v', h1, h2⟩ := hab.tmps t _ hb
        obtain ⟨xs⟩ := xs
        simp only [VR] at h2; obtain ⟨ys, rfl, _⟩ := h2
        have : b.tmps[t]? = some (.tuple ys) := by rw [← Array.getElem?_toList]; exact h1
        simp only [yielded, ht, Option.bind_some, this]
        rfl
      · cases h
    · cases h
/-- A slot is set, and all is worked out. -/
noncomputable def fPutE {α : Type} (a : AA) (dst : Option Tmp) (v : Value) (k : AA → α) : α :=
  AA.rec (motive := fun _ => α) (fun l n ds => fN n fun n => Option.rec (motive := fun _ => α) (k ⟨l, n, ds⟩) (fun d => Bool.rec (motive := fun _ => α) (k ⟨l, n, ds⟩) (Tr.fput (some v) (Nat.succ d) l d fun l => k ⟨l, n, ds⟩) (Nat.ble (Nat.succ d) n)) dst) a
theorem fPutE_eq {α : Type} (a : AA) (dst : Option Tmp) (v : Value) (k : AA → α) : fPutE a dst v k = k (a.put dst v) := by
  obtain ⟨l, n, ds⟩ := a
  cases dst with
  | none => simp only [fPutE, fN_eq, AA.put]
  | some d =>
    simp only [fPutE, fN_eq, AA.put]
    cases h : Nat.ble (Nat.succ d) n with
    | false => rfl
    | true =>
      simp only [if_true]
      rw [Tr.fput_eq]
noncomputable def fDef {α : Type} (d : ADef) (k : ADef → α) : α :=
  match d with
  | .fn f cap args => fN f fun f => fVs1 cap fun cap => fVs1 args fun args => k (.fn f cap args)
  | .mark i => fN i fun i => k (.mark i)
theorem fDef_eq {α : Type} (d : ADef) (k : ADef → α) : fDef d k = k d := by cases d <;> simp only [fDef, fN_eq, fVs1_eq]
noncomputable def evOps (P : Program) (call : CallT) (same : XT) (rd : Option Nat) (ops : Array Oper) : List Nat → AA → AW → Except String (AX × AA × AW)
  | [], a, A => .ok (.normal, a, A)
  | i :: r, a, A => match ops[i]? with
    | none => .error "no such operation"
    | some o => match wantedE ops a.tmps o with
      | some true => match evOp1 P call same rd o a A with
        | .ok (.val v, A') => fV v fun v => fPutE a o.dst v fun a' => fW A' fun A' => evOps P call same rd ops r a' A'
        | .ok (.dfr d, A') => fDef d fun d => fPutE { a with defers := d :: a.defers } o.dst undef fun a' => evOps P call same rd ops r a' A'
        | .ok (.panic v, A') => fV v fun v => fW A' fun A' => .ok (.panic v, a, A')
        | .error s => .error s
      | some false => fPutE a o.dst undef fun a' => evOps P call same rd ops r a' A
      | none => .error ("guard: " ++ o.pos)
def XR (μ : Mu) : AX → Exit → Prop
  | .normal, e => e = .normal
  | .exit id, e => e = .exit id
  | .goto l, e => e = .goto l
  | .ret, e => e = .ret
  | .panic v, e => ∃ v', e = .panic [{ v := v', recovered := false }] ∧ VR μ v v'
def QX (μ : Mu) (A : AW) (w : World) (x : AX) (a' : AA) (A' : AW) : Exit → Act → World → Prop := fun e b w' => ∃ μ', XR μ' x e ∧ AAR μ' a' b ∧ WR μ' A' w' ∧ Ext μ A w μ' A' w'
theorem evOps_ok {call : CallT} {same : XT} (hcall : CallOK P call) (hsame : SameOK P same) {rd ro : Option Nat} {ops : Array Oper} {Q : Exit → Act → World → Prop} {x : AX} {a' : AA} {A' : AW} : ∀ (l : List Nat) (a : AA) (A : AW) (μ : Mu) (b : Act) (w : World), WR μ A w → AAR μ a b → RO μ rd ro →
    evOps P call same rd ops l a A = .ok (x, a', A') → (∀ e b' w', QX μ A w x a' A' e b' w' → Q e b' w') → wpOpsIn (FR ro) 0 P ops Q l b w
  | [], a, A, μ, b, w, W, hab, hro, h, hq => by
    simp only [evOps] at h; cases h
    simp only [wpOpsIn]
    exact hq _ _ _ ⟨μ, rfl, hab, W, Ext.refl⟩
  | i :: r, a, A, μ, b, w, W, hab, hro, h, hq => by
    simp only [evOps] at h
    split at h
    · cases h
    · rename_i o ho
      simp only [wpOpsIn, ho]
      split at h
      · rename_i hw
        rw [wantedE_ok hab hw, if_pos rfl]
        split at h
        · rename_i v A1 h1
          rw [fV_eq, fPutE_eq, fW_eq] at h
          refine evOp1_ok hcall hsame W hab hro h1 (fun v2 hv2 μ' v' w' hv' W' E' => ?_) (fun d hd => by cases hd) (fun v hv => by cases hv)
          cases hv2
          exact evOps_ok hcall hsame r _ _ μ' _ w' W'.lay ((hab.mono E'.le).put _ hv') (hro.mono E'.le) h fun e b'' w'' ⟨μ'', q1, q2, q3, q4⟩ => hq _ _ _ ⟨μ'', q1, q2, q3, E'.lay.trans q4⟩
        · rename_i d A1 h1
          rw [fDef_eq, fPutE_eq] at h
          refine evOp1_ok hcall hsame W hab hro h1 (fun v2 hv2 => by cases hv2) (fun d2 hd2 b' hab' W' E' => ?_) (fun v hv => by cases hv)
          cases hd2
          exact evOps_ok hcall hsame r _ _ μ b' w W' hab' hro h fun e b'' w'' ⟨μ'', q1, q2, q3, q4⟩ => hq _ _ _ ⟨μ'', q1, q2, q3, E'.trans q4⟩
        · rename_i v A1 h1
          rw [fV_eq, fW_eq] at h
          cases h
          refine evOp1_ok hcall hsame W hab hro h1 (fun v2 hv2 => by cases hv2) (fun d hd => by cases hd) (fun v hv μ' v' w' hv' W' E' => ?_)
          cases hv
          exact hq _ _ _ ⟨μ', ⟨v', rfl, hv'⟩, hab.mono E'.le, W'.lay, E'.lay⟩
        · cases h
      · rename_i hw
        rw [wantedE_ok hab hw, if_neg (by simp)]
        rw [fPutE_eq] at h
        exact ⟨fun _ _ => trivial, evOps_ok hcall hsame r _ A μ _ w W (hab.put _ VR_undef) hro h hq⟩
      · cases h
end Ev
end Go.Proofs.Ytkjnaamlhkldmab
