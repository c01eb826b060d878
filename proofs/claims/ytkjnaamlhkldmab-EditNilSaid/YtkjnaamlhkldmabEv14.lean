import Derived.Test.YtkjnaamlhkldmabEv13
namespace Go.Proofs.Ytkjnaamlhkldmab
namespace Ev
variable {P : Program} {μ : Mu} {A : AW} {w : World}

noncomputable def aRes (P : Program) (A : AW) (l : Env) : List ResultVar → Option (List Value)
  | [] => some []
  | .tmp t :: r => match l.get t, aRes P A l r with
    | some v, some vs => some (v :: vs)
    | _, _ => none
  | .cell t ty :: r => match l.get t, aRes P A l r with
    | some p, some vs => match aLoad P A ty p with
      | some v => some (v :: vs)
      | none => none
    | _, _ => none
def resF (tmps : Array Value) : ResultVar → Sem Value
  | .tmp t => pure (tmps.getD t undef)
  | .cell a t => do loadVar t (← asAddr (tmps.getD a undef))
theorem results_eq (fn : Func) (tmps : Array Value) : results fn tmps = (do
    let vs ← fn.results.mapM (resF tmps)
    pure (if h : vs.size = 1 then vs[0] else .tuple vs)) := rfl
theorem aRes_ok {l : Env} {tmps : Array Value} (W : WR μ A w) (hl : TR μ l tmps.toList) : ∀ {rs : List ResultVar} {vs : List Value}, aRes P A l rs = some vs →
    ∃ vs' : List Value, (rs.mapM (resF tmps) : Sem (List Value)).run P w = .ok vs' w ∧ LR μ vs vs'
  | [], vs, h => by simp only [aRes] at h; cases h; exact ⟨[], rfl, LR.nil⟩
  | .tmp t :: r, vs, h => by
    simp only [aRes] at h
    split at h
    · rename_i v us hv hr
      cases h
      obtain ⟨vs', h1, h2⟩ := aRes_ok W hl hr
      obtain ⟨v', h3, h4⟩ := hl t v hv
      have h5 : tmps.getD t undef = v' := by
        have : tmps[t]? = some v' := by rw [← Array.getElem?_toList]; exact h3
        rw [Array.getD_eq_getD_getElem?, this]; rfl
      refine ⟨v' :: vs', ?_, LR.cons h4 h2⟩
      simp only [List.mapM_cons, resF, Sem.run_bind, Sem.run_pure, Result.andThen, h1, h5]
    · cases h
  | .cell t ty :: r, vs, h => by
    simp only [aRes] at h
    split at h
    · rename_i p us hp hr
      split at h
      · rename_i v hv
        cases h
        obtain ⟨vs', h1, h2⟩ := aRes_ok W hl hr
        obtain ⟨p', h3, h4⟩ := hl t p hp
        have h5 : tmps.getD t undef = p' := by
          have : tmps[t]? = some p' := by rw [← Array.getElem?_toList]; exact h3
          rw [Array.getD_eq_getD_getElem?, this]; rfl
        have hp2 : ∃ a, p = .pointer (some a) := by
          unfold aLoad at hv
          split at hv
          · exact ⟨_, rfl⟩
          · cases hv
        obtain ⟨a, rfl⟩ := hp2
        simp only [VR] at h4
        obtain ⟨a', rfl, ha⟩ := h4
        obtain ⟨v', h6, h7⟩ := aLoad_var W ha hv
        refine ⟨v' :: vs', ?_, LR.cons h7 h2⟩
        have h8 : (resF tmps (.cell t ty)).run P w = .ok v' w := by
          simp only [resF, h5, Sem.run_bind, asAddr, Sem.run_pure, Result.andThen, h6]
        simp only [List.mapM_cons, Sem.run_bind, h8, Sem.run_pure, Result.andThen, h1]
      · cases h
    · cases h
def oneOr : List Value → Value
  | [v] => v
  | vs => .tuple ⟨vs⟩
theorem aRes_run {l : Env} {tmps : Array Value} {fn : Func} {vs : List Value} (W : WR μ A w) (hl : TR μ l tmps.toList) (h : aRes P A l fn.results.toList = some vs) : ∃ v', (results fn tmps).run P w = .ok v' w ∧ VR μ (oneOr vs) v' := by
  obtain ⟨vs', h1, h2⟩ := aRes_ok W hl h
  refine ⟨if h : vs'.toArray.size = 1 then vs'.toArray[0] else .tuple vs'.toArray, ?_, ?_⟩
  · rw [results_eq, Array.mapM_eq_mapM_toList]
    simp only [Sem.run_bind, Sem.run_map]
    rw [h1]
    rfl
  · have hlen := h2.len
    match vs, h2, hlen with
    | [], h2, hlen =>
      have : vs' = [] := List.eq_nil_of_length_eq_zero (by simpa using hlen)
      subst this
      simp only [oneOr, VR]
      exact ⟨_, rfl, LR.nil⟩
    | [v], h2, hlen =>
      simp only [LR] at h2
      obtain ⟨y, ys, rfl, h3, rfl⟩ := h2
      exact h3
    | v :: u :: r, h2, hlen =>
      have hne : ¬ vs'.toArray.size = 1 := by simp only [List.size_toArray, hlen, List.length_cons]; omega
      rw [dif_neg hne]
      simp only [oneOr, VR]
      exact ⟨_, rfl, h2⟩
def settleA : AM → AM
  | .recd _ => .ret
  | m => m
theorem settle_ok {u : AM} {m : FrameMode} (h : MoR μ u m) : MoR μ (settleA u) (settle m) := by
  cases u with
  | ret => simp only [MoR] at h; subst h; rfl
  | pan v => obtain ⟨v', rfl, hv⟩ := h; exact ⟨v', rfl, hv⟩
  | recd v => obtain ⟨v', rfl, hv⟩ := h; rfl
theorem MoR.ne {u : AM} {m : FrameMode} (h : MoR μ u m) : m ≠ .run := by
  cases u with
  | ret => simp only [MoR] at h; subst h; simp
  | pan v => obtain ⟨v', rfl, hv⟩ := h; simp
  | recd v => obtain ⟨v', rfl, hv⟩ := h; simp
/-- The slots of a call. -/
noncomputable def fArgs {α : Type} (l : List Value) : Nat → Tr Value → (Tr Value → α) → α :=
  List.rec (motive := fun _ => Nat → Tr Value → (Tr Value → α) → α) (fun _ t k => k t) (fun v _ ih n t k => fV v fun v => Tr.fput (some v) (Nat.succ n) t n fun t => fN (Nat.succ n) fun n => ih n t k) l
noncomputable def layArgs : List Value → Nat → Tr Value → Tr Value
  | [], _, t => t
  | v :: r, n, t => layArgs r (n + 1) (Tr.put (some v) (n + 1) t n)
theorem fArgs_eq {α : Type} : ∀ (l : List Value) (n : Nat) (t : Tr Value) (k : Tr Value → α), fArgs l n t k = k (layArgs l n t)
  | [], _, t, k => rfl
  | v :: r, n, t, k => by
    show fV v (fun v => Tr.fput (some v) (Nat.succ n) t n fun t => fN (Nat.succ n) fun n => fArgs r n t k) = _
    rw [fV_eq, Tr.fput_eq, fN_eq, fArgs_eq r]
    rfl
theorem layArgs_get : ∀ (l : List Value) (n : Nat) (t : Tr Value) (j : Nat), (layArgs l n t).get j = if n ≤ j ∧ j < n + l.length then l[j - n]? else t.get j
  | [], n, t, j => by simp only [layArgs, List.length_nil, Nat.add_zero]; rw [if_neg (by omega)]
  | v :: r, n, t, j => by
    simp only [layArgs]
    rw [layArgs_get r (n + 1), Tr.get_put _ _ _ _ _ (by omega)]
    simp only [List.length_cons]
    by_cases h1 : j = n
    · subst h1
      rw [if_neg (by omega), if_pos rfl, if_pos (by omega)]
      simp
    · rw [if_neg h1]
      by_cases h2 : n + 1 ≤ j ∧ j < n + 1 + r.length
      · rw [if_pos h2, if_pos (by omega), show j - n = (j - (n + 1)) + 1 by omega]
        simp
      · rw [if_neg h2, if_neg (by omega)]
noncomputable def enterA (fn : Func) (args : List Value) : AA := ⟨layArgs args 0 .nil, args.length + (fn.ntmps - args.length), []⟩
theorem enter_ok {fn : Func} {args : List Value} {args' : Array Value} (h : LR μ args args'.toList) : AAR μ (enterA fn args) { tmps := args' ++ Array.replicate (fn.ntmps - args'.size) undef, defers := [] } := by
  have hs : args'.size = args.length := by simpa using h.len
  refine ⟨fun t v hv => ?_, by simp [enterA, hs], by simp [enterA, DR]⟩
  simp only [enterA] at hv
  rw [layArgs_get] at hv
  split at hv
  · rename_i hc
    simp only [Nat.sub_zero] at hv
    obtain ⟨v', h1, h2⟩ := h.get hv
    refine ⟨v', ?_, h2⟩
    rw [Array.toList_append, List.getElem?_append_left (by simp [hs]; omega)]
    exact h1
  · cases hv
theorem callsDIn_of_wpS {f : FuncId} {fn : Func} {c : Code} {args : Array Value} {u : FrameMode} {w : World} {R : Ending → FrameMode → World → Prop}
    (hf : P.funcs[f]? = some fn) (hb : fn.body = some c)
    (h : ∀ (c₀ : Frame) (cs : List Frame), c₀.mode = u →
      c.wpS P (bodyPostS P fn c₀ cs R) { tmps := args ++ Array.replicate (fn.ntmps - args.size) undef, defers := [] } (c₀ :: cs) w) :
    CallsDIn Fence.wide 0 P f args u w R := by
  refine ⟨trivial, fun c₀ cs hu _ => ?_⟩
  let b : Frame := { (default : Frame) with fn := f, kind := .deferred }
  have henter : Frame.enter P f args .deferred =
      b.at { tmps := args ++ Array.replicate (fn.ntmps - args.size) undef, defers := [] } [.code c] := by
    simp [Frame.enter, Frame.at, hf, hb, b]
  obtain ⟨e, a', cs', w', hq, harr⟩ := h c₀ cs hu b [] rfl rfl
  rw [← henter] at harr
  cases e with
  | normal =>
    obtain ⟨hd, u', rfl, v, hr, hR⟩ := hq
    exact ⟨.returned v, u', w', _, hR, stepsIn_wide.2 (Steps.trans harr (.one step_end)), rfl, rfl, rfl, hd, fn, hf, hr⟩
  | ret =>
    obtain ⟨hd, u', rfl, v, hr, hR⟩ := hq
    obtain ⟨todo, hs⟩ := harr
    exact ⟨.returned v, u', w', _, hR, stepsIn_wide.2 hs, rfl, rfl, rfl, hd, fn, hf, hr⟩
  | panic chain =>
    obtain ⟨hd, u', rfl, hR⟩ := hq
    obtain ⟨todo, hs⟩ := harr
    exact ⟨.panicked chain, u', w', _, hR, stepsIn_wide.2 hs, rfl, rfl, rfl, hd, fn, hf⟩
  | exit id => exact hq.elim
  | goto l => exact hq.elim
  | outgrown =>
    obtain ⟨u', hR⟩ := hq
    exact ⟨.outgrown, u', w', b, hR, harr.resolve_left (by simp [b]), rfl, rfl, trivial⟩
noncomputable def evD (P : Program) (call : CallT) (same : XT) (dr : DrawT) (fuel : Nat) (df : FuncId) (dcap dargs : List Value) (u : AM) (A : AW) : Except String (AM × AW) :=
  match P.funcs[df]? with
  | some fn => match fn.body with
    | some c => if (fn.name == "runtime.NumGoroutine") = false then
        match fArgs (dargs ++ dcap) 0 .nil fun l => fN ((dargs ++ dcap).length + (fn.ntmps - (dargs ++ dcap).length)) fun n => evS P call same dr fuel c ⟨l, n, []⟩ u A with
        | .ok (.normal, a, u', A') => match a.defers, aRes P A' a.tmps fn.results.toList with
          | [], some _ => .ok (u', A')
          | _, _ => .error "deferred"
        | .ok (.ret, a, u', A') => match a.defers, aRes P A' a.tmps fn.results.toList with
          | [], some _ => .ok (u', A')
          | _, _ => .error "deferred"
        | .ok _ => .error "deferred: panic"
        | .error s => .error s
      else .error "deferred: name"
    | none => .error "deferred: body"
  | none => .error "deferred: function"
theorem evD_ok {call : CallT} {same : XT} {dr : DrawT} (hcall : CallOK P call) (hsame : SameOK P same) (hdr : DrawOK P dr) {fuel : Nat} {df : FuncId} {dcap dargs : List Value} {u u' : AM} {A' : AW} {m : FrameMode} {args' : Array Value} (h : evD P call same dr fuel df dcap dargs u A = .ok (u', A')) (W : WR μ A w) (hm : MoR μ u m) (ha : LR μ (dargs ++ dcap) args'.toList) :
    (callFunc df args').run P w = .ok (.enter df args') w ∧ CallsDIn Fence.wide 0 P df args' m w fun e m' w' => ∃ v, e = .returned v ∧ ∃ μ', MoR μ' u' m' ∧ WR μ' A' w' ∧ Ext μ A w μ' A' w' := by
  unfold evD at h
  split at h
  · rename_i fn hfn
    split at h
    · rename_i c hb
      split at h
      · rename_i hnm
        refine ⟨?_, ?_⟩
        · have hne : fn.body.isNone = false := by rw [hb]; rfl
          simp only [callFunc, Sem.run_bind, run_program, Result.andThen, hfn, hnm, Bool.false_eq_true, if_false, hne, Sem.run_pure]
        · refine callsDIn_of_wpS hfn hb fun c0 cs0 hc0 => ?_
          have hc : ({ c0 with mode := m } : Frame) = c0 := by subst hc0; rfl
          rw [fArgs_eq, fN_eq] at h
          have key : ∀ x a1 u1 A1, evS P call same dr fuel c (enterA fn (dargs ++ dcap)) u A = .ok (x, a1, u1, A1) → (x = .normal ∨ x = .ret) → a1.defers = [] → (∃ vs, aRes P A1 a1.tmps fn.results.toList = some vs) → u1 = u' → A1 = A' →
              c.wpS P (bodyPostS P fn c0 cs0 fun e m' w' => ∃ v, e = .returned v ∧ ∃ μ', MoR μ' u' m' ∧ WR μ' A' w' ∧ Ext μ A w μ' A' w') { tmps := args' ++ Array.replicate (fn.ntmps - args'.size) undef, defers := [] } (c0 :: cs0) w := by
            intro x a1 u1 A1 he hx hd ⟨vs, hvs⟩ hu hA
            subst hu hA
            have := evS_ok (c0 := c0) (cs0 := cs0) hcall hsame hdr fuel c _ u A μ _ m w x a1 u1 A1 (bodyPostS P fn c0 cs0 fun e m' w' => ∃ v, e = .returned v ∧ ∃ μ', MoR μ' u1 m' ∧ WR μ' A1 w' ∧ Ext μ A w μ' A1 w') he W (enter_ok ha) hm (fun e b' m' w' μ' q1 q2 q3 q4 q5 => by
              have hdd := q2.defers
              rw [hd] at hdd
              simp only [DR] at hdd
              obtain ⟨v', hr, _⟩ := aRes_run q4 q2.tmps hvs
              rcases hx with rfl | rfl
              · simp only [XR] at q1; subst q1
                exact ⟨hdd, m', rfl, v', hr, v', rfl, μ', q3, q4, q5⟩
              · simp only [XR] at q1; subst q1
                exact ⟨hdd, m', rfl, v', hr, v', rfl, μ', q3, q4, q5⟩)
            rw [hc] at this
            exact this
          split at h
          · rename_i a1 u1 A1 he
            split at h
            · rename_i vs hd hvs
              cases h
              exact key _ _ _ _ he (.inl rfl) hd ⟨_, hvs⟩ rfl rfl
            · cases h
          · rename_i a1 u1 A1 he
            split at h
            · rename_i vs hd hvs
              cases h
              exact key _ _ _ _ he (.inr rfl) hd ⟨_, hvs⟩ rfl rfl
            · cases h
          · cases h
          · cases h
      · cases h
    · cases h
  · cases h
noncomputable def unwindA (P : Program) (call : CallT) (same : XT) (dr : DrawT) (fuel : Nat) (fn : Func) (l : Env) : List ADef → AM → AW → Except String (AE × AW)
  | [], .ret, A => match aRes P A l fn.results.toList with
    | some vs => .ok (.ret (oneOr vs), A)
    | none => .error ("results of " ++ fn.name)
  | [], .pan v, A => .ok (.panic v, A)
  | [], .recd _, _ => .error "recovered"
  | .fn f cap args :: ds, u, A => match evD P call same dr fuel f cap args u A with
    | .ok (u', A') => unwindA P call same dr fuel fn l ds (settleA u') A'
    | .error s => .error s
  | .mark i :: ds, u, A => match A.get i with
    | some (.dfr true) => fW (A.set i (some (.dfr false))) fun A' => unwindA P call same dr fuel fn l ds u A'
    | _ => .error "mark"
theorem unwind_ok {call : CallT} {same : XT} {dr : DrawT} (hcall : CallOK P call) (hsame : SameOK P same) (hdr : DrawOK P dr) {fuel : Nat} {fn : Func} {l : Env} {tmps : Array Value} {R : Ending → World → Prop} {e : AE} {A' : AW} : ∀ (ds : List ADef) (u : AM) (A : AW) (μ : Mu) (ds' : List Deferred) (m : FrameMode) (w : World),
    unwindA P call same dr fuel fn l ds u A = .ok (e, A') → WR μ A w → TR μ l tmps.toList → DR μ ds ds' → MoR μ u m → (∀ e' w' μ', ER μ' e e' → WR μ' A' w' → Ext μ A w μ' A' w' → R e' w') → LeavesInM Fence.wide 0 P fn tmps R ds' m w
  | [], .ret, A, μ, ds', m, w, h, W, hl, hd, hm, hR => by
    simp only [DR] at hd; subst hd
    simp only [MoR] at hm; subst hm
    simp only [unwindA] at h
    split at h
    · rename_i vs hvs
      cases h
      obtain ⟨v', hr, hv⟩ := aRes_run W hl hvs
      exact ⟨v', hr, hR _ _ μ hv W Ext.refl⟩
    · cases h
  | [], .pan v, A, μ, ds', m, w, h, W, hl, hd, hm, hR => by
    simp only [DR] at hd; subst hd
    obtain ⟨v', rfl, hv⟩ := hm
    simp only [unwindA] at h; cases h
    exact hR _ _ μ ⟨v', rfl, hv⟩ W Ext.refl
  | [], .recd v, A, μ, ds', m, w, h, W, hl, hd, hm, hR => by simp only [unwindA] at h; cases h
  | .fn f cap args :: ds, u, A, μ, ds', m, w, h, W, hl, hd, hm, hR => by
    simp only [DR] at hd
    obtain ⟨cap', args', r, rfl, h1, h2, h3⟩ := hd
    unfold unwindA at h
    split at h
    · rename_i u1 A1 hD
      obtain ⟨hinv, hc⟩ := evD_ok (args' := args' ++ cap') hcall hsame hdr hD W hm (by rw [Array.toList_append]; exact h2.append h1)
      refine ⟨hm.ne, .inr ⟨fun hd => (by simp [Fence.wide] at hd), .func f, cap', f, args' ++ cap', rfl, hinv, fun _ _ => trivial, hc.mono fun e1 m' w' ⟨v, he, μ', hm', W', E'⟩ => ?_⟩⟩
      subst he
      exact unwind_ok hcall hsame hdr ds (settleA u1) A1 μ' r (settle m') w' h W' (hl.mono E'.le) (h3.mono E'.le) (settle_ok hm') fun e' w'' μ'' g1 g2 g3 => hR e' w'' μ'' g1 g2 (E'.trans g3)
    · cases h
  | .mark i :: ds, u, A, μ, ds', m, w, h, W, hl, hd, hm, hR => by
    simp only [DR] at hd
    obtain ⟨lo, r, rfl, h1, h2⟩ := hd
    unfold unwindA at h
    split at h
    · rename_i hg
      rw [fW_eq] at h
      obtain ⟨o1, ho1, ho2⟩ := W.has _ _ _ hg h1
      simp only [OR, if_true] at ho2
      subst ho2
      obtain ⟨W1, E1⟩ := W.upd (o := .dfr false) (o' := .deferred none) hg h1 rfl
      refine ⟨hm.ne, .inl ⟨lo.b, _, rfl, run_takeDeferred ho1, ?_⟩⟩
      exact unwind_ok hcall hsame hdr ds u _ μ r m _ h W1.lay hl h2 hm fun e' w'' μ'' g1 g2 g3 => hR e' w'' μ'' g1 g2 (E1.lay.trans g3)
    · cases h
/-! the parameters of a round -/
noncomputable def fPs {α : Type} : List Tmp → List Value → AA → (AA → α) → α
  | t :: ts, v :: vs, a, k => fV v fun v => fPutE a (some t) v fun a => fPs ts vs a k
  | _, _, a, k => k a
noncomputable def putPs : List Tmp → List Value → AA → AA
  | t :: ts, v :: vs, a => putPs ts vs (a.put (some t) v)
  | _, _, a => a
theorem fPs_eq {α : Type} : ∀ (ts : List Tmp) (vs : List Value) (a : AA) (k : AA → α), fPs ts vs a k = k (putPs ts vs a)
  | [], _, _, _ => rfl
  | _ :: _, [], _, _ => rfl
  | t :: ts, v :: vs, a, k => by simp only [fPs, putPs, fV_eq, fPutE_eq, fPs_eq ts vs]
theorem putPs_ok : ∀ (ts : List Tmp) (vs : List Value) (vs' : List Value) (a : AA) (b : Act), AAR μ a b → LR μ vs vs' → AAR μ (putPs ts vs a) { b with tmps := (ts.zip vs').foldl (fun tmps (p : Tmp × Value) => tmps.setIfInBounds p.1 p.2) b.tmps }
  | [], _, _, a, b, h, _ => h
  | t :: ts, [], vs', a, b, h, hl => by
    simp only [LR] at hl; subst hl
    exact h
  | t :: ts, v :: vs, vs', a, b, h, hl => by
    simp only [LR] at hl
    obtain ⟨y, ys, rfl, h1, h2⟩ := hl
    have := putPs_ok ts vs ys _ _ (h.put (some t) h1) h2
    exact this
noncomputable def stepF (P : Program) (same : XT) (fuel : Nat) (dr : CallT → DrawT) (call : CallT) (f : FuncId) (args : List Value) (A : AW) : Except String (AE × AW) :=
  match P.funcs[f]? with
  | some fn => match fn.body with
    | some c => match fArgs args 0 .nil fun l => fN (args.length + (fn.ntmps - args.length)) fun n => evC P call same (dr call) none fuel c ⟨l, n, []⟩ A with
      | .ok (.normal, a, A') => unwindA P call same (dr call) fuel fn a.tmps a.defers .ret A'
      | .ok (.ret, a, A') => unwindA P call same (dr call) fuel fn a.tmps a.defers .ret A'
      | .ok (.panic v, a, A') => unwindA P call same (dr call) fuel fn a.tmps a.defers (.pan v) A'
      | .ok _ => .error "exit"
      | .error s => .error (fn.name ++ " > " ++ s)
    | none => .error "no body"
  | none => .error "no function"
theorem stepF_ok {same : XT} {fuel : Nat} {dr : CallT → DrawT} {call : CallT} (hcall : CallOK P call) (hsame : SameOK P same) (hdr : DrawOK P (dr call)) {f : FuncId} {args : List Value} {A A' : AW} {e : AE} (h : stepF P same fuel dr call f args A = .ok (e, A')) (μ : Mu) (w : World) (args' : Array Value) (W : WR μ A w) (ha : LR μ args args'.toList) :
    Calls P f args' w fun e' w' => ∃ μ', ER μ' e e' ∧ WR μ' A' w' ∧ Ext μ A w μ' A' w' := by
  unfold stepF at h
  split at h
  · rename_i fn hfn
    split at h
    · rename_i c hb
      refine (callsIn_wide (n := 0)).1 (callsIn_of_wp_marks (F := Fence.wide) hfn hb trivial ?_)
      rw [fArgs_eq, fN_eq] at h
      have key : ∀ x a1 A1 u, evC P call same (dr call) none fuel c (enterA fn args) A = .ok (x, a1, A1) → ((x = .normal ∨ x = .ret) ∧ u = AM.ret ∨ ∃ v, x = .panic v ∧ u = .pan v) → unwindA P call same (dr call) fuel fn a1.tmps a1.defers u A1 = .ok (e, A') →
          c.wpIn Fence.wide 0 P (bodyPostM Fence.wide 0 P fn fun e' w' => ∃ μ', ER μ' e e' ∧ WR μ' A' w' ∧ Ext μ A w μ' A' w') { tmps := args' ++ Array.replicate (fn.ntmps - args'.size) undef, defers := [] } w := by
        intro x a1 A1 u he hx hu
        refine evC_ok (ro := none) hcall hsame hdr fuel c _ A μ _ w x a1 A1 _ he W (enter_ok ha) rfl fun e1 b' w' ⟨μ', q1, q2, q3, q4⟩ => ?_
        have fin : ∀ m, MoR μ' u m → LeavesInM Fence.wide 0 P fn b'.tmps (fun e' w' => ∃ μ', ER μ' e e' ∧ WR μ' A' w' ∧ Ext μ A w μ' A' w') b'.defers m w' := fun m hm =>
          unwind_ok hcall hsame hdr a1.defers u A1 μ' b'.defers m w' hu q3 q2.tmps q2.defers hm fun e' w'' μ'' g1 g2 g3 => ⟨μ'', g1, g2, q4.trans g3⟩
        rcases hx with ⟨hx, rfl⟩ | ⟨v, rfl, rfl⟩
        · rcases hx with rfl | rfl
          · simp only [XR] at q1; subst q1; exact fin _ rfl
          · simp only [XR] at q1; subst q1; exact fin _ rfl
        · simp only [XR] at q1; obtain ⟨v', rfl, hv⟩ := q1
          exact fin _ ⟨v', rfl, hv⟩
      split at h
      · rename_i a1 A1 he; exact key _ _ _ .ret he (.inl ⟨.inl rfl, rfl⟩) h
      · rename_i a1 A1 he; exact key _ _ _ .ret he (.inl ⟨.inr rfl, rfl⟩) h
      · rename_i v a1 A1 he; exact key _ _ _ (.pan v) he (.inr ⟨v, rfl, rfl⟩) h
      · cases h
      · cases h
    · cases h
  · cases h
/-! one round -/
noncomputable def endR : AX → Option (Bool × AJ)
  | .normal => some (true, .none)
  | .ret => some (false, .ret)
  | .exit id => some (false, .exit id)
  | .goto l => some (false, .goto l)
  | .panic _ => none
noncomputable def stOf : Bool → LoopState
  | true => .ready
  | false => .done
noncomputable def stepR (P : Program) (same : XT) (fuel : Nat) (dr : CallT → DrawT) (call : CallT) (r : Nat) (args : List Value) (A : AW) : Except String (AE × AW) :=
  match A.get r with
  | some (.loop .ready _ ps asg bd t n) => if Nat.beq args.length ps.size then
      fPs ps.toList args ⟨t, n, []⟩ fun a0 => match evC P call same (dr call) (some r) fuel asg a0 A with
      | .ok (.normal, a1, A1) => (match A1.get r with
        | some (.loop .ready j ps2 asg2 bd2 t2 n2) => fW (A1.set r (some (.loop .busy j ps2 asg2 bd2 t2 n2))) fun A2 =>
          (match evC P call same (dr call) (some r) fuel bd a1 A2 with
          | .ok (x, _, A3) => (match endR x, A3.get r with
            | some (v, jj), some (.loop _ _ ps3 asg3 bd3 t3 n3) => fW (A3.set r (some (.loop (stOf v) jj ps3 asg3 bd3 t3 n3))) fun A4 => .ok (.ret (.bool v), A4)
            | _, _ => .error "round: its end")
          | .error s => .error ("round > " ++ s))
        | _ => .error "round: no record")
      | .ok _ => .error "round: assign"
      | .error s => .error ("assign > " ++ s)
    else .error "round: parameters"
  | _ => .error "round: not ready"
theorem endR_ok {v : Bool} {jj : AJ} {x : AX} {e : Exit} {l : Nat} {q : Loop} {R : Ending → World → Prop} {b : Act} (hx : endR x = some (v, jj)) (hX : XR μ x e) (hh : w.heap[l]? = some (.loop q)) (hR : R (.returned (.bool v)) (w.putObj l (.loop { q with state := stOf v, pending := jj.code }))) : roundPost P l R e b w := by
  cases x with
  | normal => cases hx; simp only [XR] at hX; subst hX; exact ⟨_, _, run_endRound none hh, hR⟩
  | ret => cases hx; simp only [XR] at hX; subst hX; exact ⟨_, _, run_endRound (some .ret) hh, hR⟩
  | exit id => cases hx; simp only [XR] at hX; subst hX; exact ⟨_, _, run_endRound (some (.exit id)) hh, hR⟩
  | goto t => cases hx; simp only [XR] at hX; subst hX; exact ⟨_, _, run_endRound (some (.goto t)) hh, hR⟩
  | panic v => cases hx
theorem zip_fold (ps : Array Tmp) (vs : Array Value) (l : Array Value) : (ps.zip vs).foldl (fun tmps (p : Tmp × Value) => tmps.setIfInBounds p.1 p.2) l = (ps.toList.zip vs.toList).foldl (fun tmps (p : Tmp × Value) => tmps.setIfInBounds p.1 p.2) l := by
  rw [← Array.foldl_toList, Array.toList_zip]
theorem stepR_ok {same : XT} {fuel : Nat} {dr : CallT → DrawT} {call : CallT} (hcall : CallOK P call) (hsame : SameOK P same) (hdr : DrawOK P (dr call)) {r : Nat} {args : List Value} {A A' : AW} {e : AE} (h : stepR P same fuel dr call r args A = .ok (e, A')) (μ : Mu) (w : World) (args' : Array Value) (l : Loc) (W : WR μ A w) (ha : LR μ args args'.toList) (hl : μ r = some l) :
    ∃ q : Loop, w.heap[l.b]? = some (.loop q) ∧ args'.size = q.params.size ∧ RoundIn Fence.wide 0 P l.b q.fn ((q.params.zip args').foldl (fun tmps (t, a) => tmps.setIfInBounds t a) q.tmps) q.assign q.body w fun e' w' => ∃ μ', ER μ' e e' ∧ WR μ' A' w' ∧ Ext μ A w μ' A' w' := by
  unfold stepR at h
  split at h
  · rename_i j0 ps asg bd t n hg
    split at h
    · rename_i hlen
      rw [fPs_eq] at h
      obtain ⟨o1, ho1, q, rfl, g1, g2, g3, g4, g5, g6, g7⟩ := W.has _ _ _ hg hl
      have hsz : args'.size = args.length := by simpa using ha.len
      have hlen' : args'.size = q.params.size := by rw [hsz, g3]; exact Nat.eq_of_beq_eq_true hlen
      refine ⟨q, ho1, hlen', roundIn_of_wpIn (F := Fence.wide) trivial ?_⟩
      have hab0 : AAR μ ⟨t, n, []⟩ { tmps := q.tmps, defers := [] } := ⟨g7, g6.symm, by simp [DR]⟩
      have hab : AAR μ (putPs ps.toList args ⟨t, n, []⟩) { tmps := (q.params.zip args').foldl (fun tmps (t, a) => tmps.setIfInBounds t a) q.tmps, defers := [] } := by
        have h9 := putPs_ok ps.toList args args'.toList _ _ hab0 ha
        have h10 := zip_fold q.params args' q.tmps
        rw [g3] at h10 ⊢
        rw [← h10] at h9
        exact h9
      rw [g4, g5]
      have hro : RO μ (some r) (some l.b) := ⟨l, hl, rfl⟩
      split at h
      · rename_i a1 A1 he
        split at h
        · rename_i j ps2 asg2 bd2 t2 n2 hg2
          rw [fW_eq] at h
          split at h
          · rename_i x a3 A3 he3
            split at h
            · rename_i v jj st3 j3 ps3 asg3 bd3 t3 n3 hx hg3
              rw [fW_eq] at h
              cases h
              refine evC_ok (ro := some l.b) hcall hsame hdr fuel asg _ A μ _ w _ _ _ _ he W hab hro fun e1 b1 w1 ⟨μ1, q1, q2, q3, q4⟩ => ?_
              simp only [XR] at q1; subst q1
              have hl1 := q4.le _ _ hl
              obtain ⟨o2, ho2, p, rfl, k1, k2, k3, k4, k5, k6, k7⟩ := q3.has _ _ _ hg2 hl1
              obtain ⟨W2, E2⟩ := q3.upd (o := .loop .busy j ps2 asg2 bd2 t2 n2) (o' := .loop { p with state := .busy }) hg2 hl1 ⟨_, rfl, rfl, k2, k3, k4, k5, k6, k7⟩
              refine ⟨_, run_beginRound ho2 k1, ?_⟩
              refine evC_ok (ro := some l.b) hcall hsame hdr fuel bd _ _ μ1 _ _ _ _ _ _ he3 W2.lay q2 (hro.mono q4.le) fun e3 b3 w3 ⟨μ3, r1, r2, r3, r4⟩ => ?_
              have hl3 := r4.le _ _ hl1
              obtain ⟨o3, ho3, p3, rfl, m1, m2, m3, m4, m5, m6, m7⟩ := r3.has _ _ _ hg3 hl3
              obtain ⟨W4, E4⟩ := r3.upd (o := .loop (stOf v) jj ps3 asg3 bd3 t3 n3) (o' := .loop { p3 with state := stOf v, pending := jj.code }) hg3 hl3 ⟨_, rfl, rfl, rfl, m3, m4, m5, m6, m7⟩
              exact endR_ok hx r1 ho3 ⟨μ3, by simp only [ER, VR], W4.lay, ((q4.trans E2.lay).trans r4).trans E4.lay⟩
            · cases h
          · cases h
        · cases h
      · cases h
      · cases h
    · cases h
  · cases h
noncomputable def evF (P : Program) (same : XT) (fuel : Nat) (dr : CallT → DrawT) : Nat → CallT
  | 0 => fun _ _ _ _ => .error "too deep"
  | n + 1 => fun y f args A => if y then stepR P same fuel dr (evF P same fuel dr n) f args A else stepF P same fuel dr (evF P same fuel dr n) f args A
theorem evF_ok {same : XT} {fuel : Nat} {dr : CallT → DrawT} (hsame : SameOK P same) (hdr : ∀ call, CallOK P call → DrawOK P (dr call)) : ∀ n, CallOK P (evF P same fuel dr n)
  | 0 => ⟨fun f args A e A' h => (by cases h), fun f args A e A' h => (by cases h)⟩
  | n + 1 => ⟨fun f args A e A' h => stepF_ok (evF_ok hsame hdr n) hsame (hdr _ (evF_ok hsame hdr n)) (show stepF P same fuel dr (evF P same fuel dr n) f args A = .ok (e, A') from h), fun r args A e A' h => stepR_ok (evF_ok hsame hdr n) hsame (hdr _ (evF_ok hsame hdr n)) (show stepR P same fuel dr (evF P same fuel dr n) r args A = .ok (e, A') from h)⟩
end Ev
end Go.Proofs.Ytkjnaamlhkldmab
