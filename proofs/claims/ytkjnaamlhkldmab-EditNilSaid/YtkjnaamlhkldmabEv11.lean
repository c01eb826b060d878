import Derived.Test.YtkjnaamlhkldmabEvX
import Derived.Test.YtkjnaamlhkldmabEvS
namespace Go.Proofs.Ytkjnaamlhkldmab
namespace Ev
variable {P : Program} {μ : Mu} {A : AW} {w : World}

noncomputable def aAppendOp (P : Program) (A : AW) (sType xType : TypeId) (s x : Value) : Option (Value × AW) :=
  match P.underlying sType, P.underlying xType, lenV s, lenV x with
  | some (.slice elem), some dx, some len, some n => match P.info? elem with
    | some ie => match ie.zero with
      | some z => if isIntD dx = false ∧ flat z = true ∧ (cellsL z).length = ie.size ∧ ie.bytes ≤ 65536 ∧ 0 < ie.size ∧ len + n ≤ 1000000 then aAppend A elem ie.size s x n else none
      | none => none
    | none => none
  | _, _, _, _ => none
theorem aAppendOp_ok {sType xType ty : TypeId} {s s' x x' v : Value} {A' : AW} (W : WR μ A w) (hs : VR μ s s') (hx : VR μ x x') (h : aAppendOp P A sType xType s x = some (v, A')) :
    ∃ μ' v' w', (Builtin.append_ #[sType, xType] ty #[s', x']).run P w = .ok v' w' ∧ VR μ' v v' ∧ WR μ' A' w' ∧ Ext μ A w μ' A' w' := by
  unfold aAppendOp at h
  split at h
  · rename_i elem dx len n h1 h2 h3 h4
    split at h
    · rename_i ie hie
      split at h
      · rename_i z hz
        split at h
        · rename_i hc
          obtain ⟨c1, c2, c3, c4, c5, c6⟩ := hc
          exact aAppend_ok { ie, z, dx, hd := h1, hx := h2, hn := c1, hi := hie, hs := rfl, hz, hf := c2, hl := c3, hb := c4, h0 := c5 } W hs hx h4 h3 c6 h
        · cases h
      · cases h
    · cases h
  · cases h
noncomputable def aBuiltin (P : Program) (l : Env) (o : Oper) (A : AW) (b : Builtin) (args : List Operand) (ts : List TypeId) : Option (Value × AW) :=
  match aPure P l o with
  | some v => some (v, A)
  | none => match b, args, ts with
    | .len, [x], [t] => match opv l x with
      | some v => match aLen P A t v with
        | some r => some (r, A)
        | none => none
      | none => none
    | .cap, [x], [t] => match opv l x with
      | some v => match aCap P t v with
        | some r => some (r, A)
        | none => none
      | none => none
    | .append, [x, y], [t, u] => match opv l x, opv l y with
      | some s, some e => aAppendOp P A t u s e
      | _, _ => none
    | .unsafeSliceData, [x], _ => match opv l x with
      | some v => match aSliceData v with
        | some r => some (r, A)
        | none => none
      | none => none
    | .unsafeString, [x, y], [t, _] => match opv l x, opv l y with
      | some p, some n => aString P A t p n
      | _, _ => none
    | .copy, [x, y], [t, _] => match opv l x, opv l y with
      | some p, some n => aCopy P A t p n
      | _, _ => none
    | .clear, [x], [t] => match opv l x with
      | some v => match aClear P A t v with
        | some A' => some (.tuple #[], A')
        | none => none
      | none => none
    | _, _, _ => none
def o1 {α : Type} (x : Option α) (A : AW) : Option (α × AW) :=
  match x with
  | some v => some (v, A)
  | none => none
noncomputable def opvo (l : Env) : Option Operand → Option (Option Value)
  | none => some none
  | some x => match opv l x with
    | some v => some (some v)
    | none => none
theorem opvo_ok {l : Env} {a : Act} {x : Option Operand} {v : Option Value} (h : TR μ l a.tmps.toList) (hx : opvo l x = some v) : OVR μ v (x.map a.eval) := by
  unfold opvo at hx
  split at hx
  · cases hx; simp [OVR]
  · split at hx
    · rename_i hv; cases hx; simp only [OVR, Option.map_some]; exact ⟨_, rfl, opv_ok h hv⟩
    · cases hx
noncomputable def aStrO (P : Program) (l : Env) (t : TypeId) (x : Operand) (lo hi : Option Operand) : Option Value :=
  match opv l x, opvo l lo, opvo l hi with
  | some v, some a, some b => aStrS P t v a b
  | _, _, _ => none
noncomputable def aOp (P : Program) (l : Env) (o : Oper) (A : AW) : Option (Value × AW) :=
  match o.op with
  | .move x | .assign x => o1 (opv l x) A
  | .pick c a b => match opv l c with
    | some (.bool true) => o1 (opv l a) A
    | some (.bool false) => o1 (opv l b) A
    | _ => none
  | .alloc t => match P.info? t with
    | some i => match i.zero with
      | some z => if flat z then some (aNew A t (cellsL z) 1) else none
      | none => none
    | none => none
  | .box t x => match opv l x with
    | some v => some (aNew A t (cellsL v) 1)
    | none => none
  | .build t ps => o1 (aBuild P l t ps.toList) A
  | .buildSlice t n ps => aBuildSlice P A l t n ps.toList
  | .load t x => match opv l x with
    | some p => o1 (aLoad P A t p) A
    | none => none
  | .store t x y => match opv l x, opv l y with
    | some p, some v => match aStore P A t v p with
      | some A' => some (undef, A')
      | none => none
    | _, _ => none
  | .nilCheck x => match opv l x with
    | some v => if notNil v then some (v, A) else none
    | none => none
  | .binOp op t x y _ => match aPure P l o with
    | some v => some (v, A)
    | none => match opv l x, opv l y with
      | some a, some b => o1 (aEq P A op t a b) A
      | _, _ => none
  | .unOp _ _ _ | .index _ _ _ => o1 (aPure P l o) A
  | .convert s d x => match aPure P l o with
    | some v => some (v, A)
    | none => match opv l x with
      | some v => match aB2S P A s d v with
        | some r => some (r, A)
        | none => match aUnsafe P A s d v with
          | some r => some (r, A)
          | none => match P.underlying s with
            | some _ => aS2B P A d v
            | none => none
      | none => none
  | .range t x => match opv l x with
    | some v => aRange P A t v
    | none => none
  | .next x str => match opv l x with
    | some v => aNext A str v
    | none => none
  | .makeInterface t x => match opv l x with
    | some v => o1 (aIface P t v) A
    | none => none
  | .makeFunc (.func f) first captured => match opvs l first.toList, opvs l captured.toList with
    | some a, some b => some (.func (.func f) ⟨a⟩ ⟨b⟩, A)
    | _, _ => none
  | .makeMap _ none => some (.map (some A.next), A.push (.map [] 0))
  | .makeMap t (some x) => match P.underlying t, opv l x with
    | some (.map _ _), some (.int _ _) => some (.map (some A.next), A.push (.map [] 0))
    | _, _ => none
  | .makeSlice t x y => match opv l x, opv l y with
    | some a, some b => aMakeSlice P A t a b
    | _, _ => none
  | .slice t x lo hi none => match aStrO P l t x lo hi with
    | some v => some (v, A)
    | none => match aPure P l o with
      | some v => some (v, A)
      | none => match opv l x, opvo l lo, opvo l hi with
        | some v, some a, some b => o1 (aSlice P A t a b v) A
        | _, _, _ => none
  | .fieldAddr s x f => match opv l x with
    | some v => o1 (aField P s f v) A
    | none => none
  | .field t x f => match opv l x with
    | some v => o1 (aFieldV P t f v) A
    | none => none
  | .indexAddr t x i => match opv l x, opv l i with
    | some a, some b => o1 (aIndex P t a b) A
    | _, _ => none
  | .lookup t x k ok => match opv l x, opv l k with
    | some a, some b => o1 (aLookup P A t a b ok) A
    | _, _ => none
  | .mapUpdate t m k x | .insert t m k x => match opv l m, opv l k, opv l x with
    | some a, some b, some c => match aUpdate P A t b c a with
      | some A' => some (undef, A')
      | none => none
    | _, _, _ => none
  | .extract x i => match opv l x with
    | some v => o1 (aExtract i v) A
    | none => none
  | .call { callee := .builtin b, args := ⟨args⟩, argTypes := ⟨ts⟩ } => aBuiltin P l o A b args ts
  | _ => none
theorem o1_ok {x : Option Value} {A A' : AW} {v : Value} (h : o1 x A = some (v, A')) : x = some v ∧ A' = A := by
  unfold o1 at h
  split at h
  · cases h; exact ⟨rfl, rfl⟩
  · cases h
theorem map1 {f : Operand → Value} {x : Operand} : Array.map f ⟨[x]⟩ = #[f x] := by
  rw [show (⟨[x]⟩ : Array Operand) = [x].toArray from rfl]; simp
theorem map2 {f : Operand → Value} {x y : Operand} : Array.map f ⟨[x, y]⟩ = #[f x, f y] := by
  rw [show (⟨[x, y]⟩ : Array Operand) = [x, y].toArray from rfl]; simp
theorem aBuiltin_ok {l : Env} {a : Act} {dst : Option Tmp} {type : TypeId} {pos : String} {after : Array Edge} {guard : Option (Nat × Bool)} {b : Builtin} {args : List Operand} {ts : List TypeId} {v : Value} {A' : AW} (W : WR μ A w) (hl : TR μ l a.tmps.toList)
    (h : aBuiltin P l ⟨dst, .call { callee := .builtin b, args := ⟨args⟩, argTypes := ⟨ts⟩ }, type, pos, after, guard⟩ A b args ts = some (v, A')) :
    OpOK P a.eval ⟨dst, .call { callee := .builtin b, args := ⟨args⟩, argTypes := ⟨ts⟩ }, type, pos, after, guard⟩ μ A w v A' := by
  unfold aBuiltin at h
  split at h
  · rename_i hp; cases h; exact aPure_ok W hl hp
  · split at h
    · rename_i x t _
      split at h
      · rename_i u hu
        split at h
        · rename_i r hr
          cases h
          obtain ⟨v', h1, h2⟩ := aLen_ok (P := P) (ty := type) W (opv_ok hl hu) hr
          refine .same W ?_ h2
          simp only [execOp, resolve, Sem.run_bind, Sem.run_pure, Result.andThen, invoke, builtin]
          have e : (Builtin.len_ #[t] type (Array.map a.eval ⟨[x]⟩)).run P w = .ok v' w := by rw [map1]; exact h1
          rw [e]
        · cases h
      · cases h
    · rename_i x t _
      split at h
      · rename_i u hu
        split at h
        · rename_i r hr
          cases h
          obtain ⟨v', h1, h2⟩ := aCap_ok (P := P) (w := w) (ty := type) (opv_ok hl hu) hr
          refine .same W ?_ h2
          simp only [execOp, resolve, Sem.run_bind, Sem.run_pure, Result.andThen, invoke, builtin]
          have e : (Builtin.cap_ #[t] type (Array.map a.eval ⟨[x]⟩)).run P w = .ok v' w := by rw [map1]; exact h1
          rw [e]
        · cases h
      · cases h
    · rename_i x y t u _
      split at h
      · rename_i s e hs he
        obtain ⟨μ', v', w', h1, h2, h3⟩ := aAppendOp_ok (P := P) (ty := type) W (opv_ok hl hs) (opv_ok hl he) h
        refine ⟨μ', v', w', .inl ?_, h2, h3⟩
        simp only [execOp, resolve, Sem.run_bind, Sem.run_pure, Result.andThen, invoke, builtin]
        have e : (Builtin.append_ #[t, u] type (Array.map a.eval ⟨[x, y]⟩)).run P w = .ok v' w' := by rw [map2]; exact h1
        rw [e]
      · cases h
    · rename_i x _
      split at h
      · rename_i u hu
        split at h
        · rename_i r hr
          cases h
          obtain ⟨v', h1, h2⟩ := aSliceData_ok (P := P) (w := w) (ts := ⟨ts⟩) (t := type) (opv_ok hl hu) hr
          refine .same W ?_ h2
          simp only [execOp, resolve, Sem.run_bind, Sem.run_pure, Result.andThen, invoke, builtin]
          have e : (Builtin.unsafeSliceData_ ⟨ts⟩ type (Array.map a.eval ⟨[x]⟩)).run P w = .ok v' w := by rw [map1]; exact h1
          rw [e]
        · cases h
      · cases h
    · rename_i x y t it _
      split at h
      · rename_i p n hp hn
        obtain ⟨v', w', h1, h2, h3⟩ := aString_ok (P := P) (it := it) (ty := type) W (opv_ok hl hp) (opv_ok hl hn) h
        refine ⟨μ, v', w', .inl ?_, h2, h3⟩
        simp only [execOp, resolve, Sem.run_bind, Sem.run_pure, Result.andThen, invoke, builtin]
        have e : (Builtin.unsafeString_ #[t, it] type (Array.map a.eval ⟨[x, y]⟩)).run P w = .ok v' w' := by rw [map2]; exact h1
        rw [e]
      · cases h
    · rename_i x y t it _
      split at h
      · rename_i p n hp hn
        obtain ⟨v', w', h1, h2, h3⟩ := aCopy_ok (P := P) (sType := it) (ty := type) W (opv_ok hl hp) (opv_ok hl hn) h
        refine ⟨μ, v', w', .inl ?_, h2, h3⟩
        simp only [execOp, resolve, Sem.run_bind, Sem.run_pure, Result.andThen, invoke, builtin]
        have e : (Builtin.copy_ #[t, it] type (Array.map a.eval ⟨[x, y]⟩)).run P w = .ok v' w' := by rw [map2]; exact h1
        rw [e]
      · cases h
    · rename_i x t _
      split at h
      · rename_i u hu
        split at h
        · rename_i A1 hr
          cases h
          obtain ⟨w', h1, h2, h3⟩ := aClear_ok (P := P) (ty := type) W (opv_ok hl hu) hr
          refine ⟨μ, .tuple #[], w', .inl ?_, by simp [VR, LR], h2, h3⟩
          simp only [execOp, resolve, Sem.run_bind, Sem.run_pure, Result.andThen, invoke, builtin]
          have e : (Builtin.clear_ #[t] type (Array.map a.eval ⟨[x]⟩)).run P w = .ok (.tuple #[]) w' := by rw [map1]; exact h1
          rw [e]
        · cases h
      · cases h
    · cases h
theorem aEq_ok {op : BinOp} {t : TypeId} {xo yo : Operand} {x x' y y' v : Value} (W : WR μ A w) (hx : VR μ x x') (hy : VR μ y y') (h : aEq P A op t x y = some v) :
    ((do eqGuard op t xo yo x' y'; binOp op t x' y') : Sem Value).run P w = .ok v w := by
  unfold aEq at h
  split at h
  · rename_i hadr
    have main : ∀ r, eqAny P A t x y = some r → ((op = .eql ∧ v = .bool r) ∨ (op = .neq ∧ v = .bool (!r))) → ((do eqGuard op t xo yo x' y'; binOp op t x' y') : Sem Value).run P w = .ok v w := by
      intro r hr hop
      have he := eqAny_ok (w := w) W hx hy hr
      rcases eqAny_shape hr with ⟨p, q, rfl, rfl⟩ | ⟨p1, p2, p3, q1, q2, q3, rfl, rfl⟩ | ⟨p, q, rfl, rfl⟩ | ⟨f, u1, v1, rfl, rfl⟩ | ⟨f, u1, v1, rfl, rfl⟩ | ⟨p, q, rfl, rfl⟩ | ⟨p, q, rfl, rfl⟩ | ⟨p1, p2, q1, q2, rfl, rfl⟩
      all_goals
        have kx := hx
        have ky := hy
      · cases p <;> cases q <;> simp only [VR] at kx ky <;> (first | (obtain ⟨_, rfl, _⟩ := kx) | subst kx) <;> (first | (obtain ⟨_, rfl, _⟩ := ky) | subst ky) <;> rcases hop with ⟨rfl, rfl⟩ | ⟨rfl, rfl⟩ <;> simp [eqGuard, binOp, he]
      · cases p1 <;> cases q1 <;> simp only [VR] at kx ky <;> (first | (obtain ⟨_, _, rfl, _⟩ := kx) | subst kx) <;> (first | (obtain ⟨_, _, rfl, _⟩ := ky) | subst ky) <;> rcases hop with ⟨rfl, rfl⟩ | ⟨rfl, rfl⟩ <;> simp [eqGuard, binOp, he]
      · cases p <;> cases q <;> simp only [VR] at kx ky <;> (first | (obtain ⟨_, rfl, _⟩ := kx) | subst kx) <;> (first | (obtain ⟨_, rfl, _⟩ := ky) | subst ky) <;> rcases hop with ⟨rfl, rfl⟩ | ⟨rfl, rfl⟩ <;> simp [eqGuard, binOp, he]
      · simp only [VR] at kx; subst kx
        obtain ⟨u1⟩ := u1; obtain ⟨v1⟩ := v1
        cases f <;> simp only [VR] at ky
        · obtain ⟨_, _, rfl, _⟩ := ky
          rcases hop with ⟨rfl, rfl⟩ | ⟨rfl, rfl⟩ <;> simp [eqGuard, binOp, he]
        · obtain ⟨_, _, _, rfl, _⟩ := ky
          rcases hop with ⟨rfl, rfl⟩ | ⟨rfl, rfl⟩ <;> simp [eqGuard, binOp, he]
      · simp only [VR] at ky; subst ky
        obtain ⟨u1⟩ := u1; obtain ⟨v1⟩ := v1
        cases f <;> simp only [VR] at kx
        · obtain ⟨_, _, rfl, _⟩ := kx
          rcases hop with ⟨rfl, rfl⟩ | ⟨rfl, rfl⟩ <;> simp [eqGuard, binOp, he]
        · obtain ⟨_, _, _, rfl, _⟩ := kx
          rcases hop with ⟨rfl, rfl⟩ | ⟨rfl, rfl⟩ <;> simp [eqGuard, binOp, he]
      · simp only [VR] at kx ky; subst kx; obtain ⟨_, rfl, _⟩ := ky
        rcases hop with ⟨rfl, rfl⟩ | ⟨rfl, rfl⟩ <;> simp [eqGuard, binOp, he]
      · simp only [VR] at kx ky; subst ky; obtain ⟨_, rfl, _⟩ := kx
        rcases hop with ⟨rfl, rfl⟩ | ⟨rfl, rfl⟩ <;> simp [eqGuard, binOp, he]
      · simp only [VR] at kx ky; obtain ⟨_, rfl, _⟩ := kx; obtain ⟨_, rfl, _⟩ := ky
        rcases hop with ⟨rfl, rfl⟩ | ⟨rfl, rfl⟩ <;> simp [eqGuard, binOp, he]
    split at h
    · rename_i r hr; cases h; exact main _ hr (.inl ⟨rfl, rfl⟩)
    · rename_i r hr; cases h; exact main _ hr (.inr ⟨rfl, rfl⟩)
    · cases h
  · cases h
theorem notNil_run {o : Oper} {x : Operand} {a : Act} {v : Value} (ho : o.op = .nilCheck x) (hv : VR μ v (a.eval x)) (hn : notNil v = true) : (execOp a.eval o).run P w = .ok (.value (a.eval x)) w := by
  unfold notNil at hn
  split at hn
  · simp only [VR] at hv; obtain ⟨_, he, _⟩ := hv; simp [execOp, ho, he]
  · rename_i f x1 y1; obtain ⟨x1⟩ := x1; obtain ⟨y1⟩ := y1
    simp only [VR] at hv; obtain ⟨_, _, he, _⟩ := hv; simp [execOp, ho, he]
  · simp only [VR] at hv; obtain ⟨_, he, _⟩ := hv; simp [execOp, ho, he]
  · cases hn
theorem aOp_ok {l : Env} {a : Act} {o : Oper} {v : Value} {A' : AW} (W : WR μ A w) (hl : TR μ l a.tmps.toList) (h : aOp P l o A = some (v, A')) : OpOK P a.eval o μ A w v A' := by
  obtain ⟨dst, op, type, pos, after, guard⟩ := o
  unfold aOp at h
  simp only at h
  split at h
  · replace h := o1_ok h; obtain ⟨h, rfl⟩ := h; exact .same W (by simp [execOp]) (opv_ok hl h)
  · replace h := o1_ok h; obtain ⟨h, rfl⟩ := h; exact .same W (by simp [execOp]) (opv_ok hl h)
  · split at h
    · rename_i hc
      replace h := o1_ok h; obtain ⟨h, rfl⟩ := h
      have := opv_ok hl hc
      simp only [VR] at this
      exact .same W (by simp [execOp, this, asBool]) (opv_ok hl h)
    · rename_i hc
      replace h := o1_ok h; obtain ⟨h, rfl⟩ := h
      have := opv_ok hl hc
      simp only [VR] at this
      exact .same W (by simp [execOp, this, asBool]) (opv_ok hl h)
    · cases h
  · rename_i t
    split at h
    · rename_i i hi
      split at h
      · rename_i z hz
        split at h
        · rename_i hf
          obtain ⟨μ', p', w', h1, h2, h3⟩ := aNew_ok (P := P) (es := 1) W (flat_VR hf)
          cases h
          refine ⟨μ', p', w', .inl ?_, h2, h3⟩
          have h4 : (Instr.alloc t true (.tuple #[])).run P w = .ok p' w' := by
            simp only [Instr.alloc, Sem.run_bind, rZ hi hz, Result.andThen]
            exact h1
          simp only [execOp, Sem.run_bind, h4, Result.andThen, Sem.run_pure]
        · cases h
      · cases h
    · cases h
  · split at h
    · rename_i u hu
      obtain ⟨μ', p', w', h1, h2, h3⟩ := aNew_ok (P := P) (es := 1) W (opv_ok hl hu)
      cases h
      exact ⟨μ', p', w', .inl (by simp [execOp, h1]), h2, h3⟩
    · cases h
  · replace h := o1_ok h; obtain ⟨h, rfl⟩ := h
    obtain ⟨v', h1, h2⟩ := aBuild_ok (w := w) hl h
    exact .same W (by simp only [execOp, Sem.run_bind, h1, Result.andThen, Sem.run_pure]) h2
  · obtain ⟨μ', v', w', h1, h2, h3⟩ := aBuildSlice_ok W hl h
    exact ⟨μ', v', w', .inl (by simp only [execOp, Sem.run_bind, h1, Result.andThen, Sem.run_pure]), h2, h3⟩
  · split at h
    · rename_i p hp
      replace h := o1_ok h; obtain ⟨h, rfl⟩ := h
      obtain ⟨v', h1, h2⟩ := aLoad_ok W (opv_ok hl hp) h
      exact .same W (by simp [execOp, h1]) h2
    · cases h
  · split at h
    · rename_i p u hp hu
      split at h
      · rename_i A1 hs
        cases h
        obtain ⟨w', h1, h2, h3⟩ := aStore_ok W (opv_ok hl hp) (opv_ok hl hu) hs
        exact ⟨μ, undef, w', .inr ⟨by simp [execOp, h1], rfl⟩, VR_undef, h2, h3⟩
      · cases h
    · cases h
  · split at h
    · rename_i u hu
      split at h
      · rename_i hn
        cases h
        exact .same W (notNil_run rfl (opv_ok hl hu) hn) (opv_ok hl hu)
      · cases h
    · cases h
  · rename_i bop bt xo yo _
    split at h
    · rename_i hp; cases h; exact aPure_ok W hl hp
    · split at h
      · rename_i x y hx hy
        replace h := o1_ok h; obtain ⟨h, rfl⟩ := h
        have h1 := aEq_ok (P := P) (xo := xo) (yo := yo) W (opv_ok hl hx) (opv_ok hl hy) h
        have hf : flat v = true := by
          unfold aEq at h
          split at h
          · split at h <;> first | (cases h; rfl) | cases h
          · cases h
        refine .same W ?_ (flat_VR hf)
        simp only [execOp]
        rw [Sem.run_bind, h1]
        rfl
      · cases h
  · replace h := o1_ok h; obtain ⟨h, rfl⟩ := h; exact aPure_ok W hl h
  · replace h := o1_ok h; obtain ⟨h, rfl⟩ := h; exact aPure_ok W hl h
  · split at h
    · rename_i hp; cases h; exact aPure_ok W hl hp
    · split at h
      · rename_i x hx
        split at h
        · rename_i r hr
          cases h
          obtain ⟨v', h1, h2⟩ := aB2S_ok W (opv_ok hl hx) hr
          exact .same W (by simp [execOp, h1]) h2
        · split at h
          · rename_i r hr
            cases h
            obtain ⟨v', h1, h2⟩ := aUnsafe_ok W (opv_ok hl hx) hr
            exact .same W (by simp [execOp, h1]) h2
          · split at h
            · rename_i ds hds
              obtain ⟨μ', v', w', h1, h2, h3⟩ := aS2B_ok W hds (opv_ok hl hx) h
              exact ⟨μ', v', w', .inl (by simp [execOp, h1]), h2, h3⟩
            · cases h
      · cases h
  · split at h
    · rename_i x hx
      obtain ⟨μ', v', w', h1, h2, h3⟩ := aRange_ok W (opv_ok hl hx) h
      exact ⟨μ', v', w', .inl (by simp [execOp, h1]), h2, h3⟩
    · cases h
  · split at h
    · rename_i x hx
      obtain ⟨v', w', h1, h2, h3⟩ := aNext_ok (P := P) (ty := type) W (opv_ok hl hx) h
      exact ⟨μ, v', w', .inl (by simp only [execOp, Sem.run_bind, h1, Result.andThen, Sem.run_pure]), h2, h3⟩
    · cases h
  · split at h
    · rename_i x hx
      replace h := o1_ok h; obtain ⟨h, rfl⟩ := h
      obtain ⟨v', h1, h2⟩ := aIface_ok (w := w) (opv_ok hl hx) h
      exact .same W (by simp [execOp, h1]) h2
    · cases h
  · rename_i f first captured
    split at h
    · rename_i x y hx hy
      cases h
      refine .same (v' := .func (.func f) (first.map a.eval) (captured.map a.eval)) W (by simp [execOp, Instr.makeFunc]) ?_
      simp only [VR]
      exact ⟨_, _, rfl, by rw [Array.toList_map]; exact opvs_ok hl hx, by rw [Array.toList_map]; exact opvs_ok hl hy⟩
    · cases h
  · rename_i t
    cases h
    obtain ⟨μ', v', w', h1, h2, h3⟩ := aMakeMap_ok (P := P) (t := t) W
    exact ⟨μ', v', w', .inl (by simp only [execOp, Option.map_none, Sem.run_bind, h1, Result.andThen, Sem.run_pure]), h2, h3⟩
  · split at h
    · rename_i x _ _ k e ki zi hd hx
      cases h
      have hv := opv_ok hl hx
      simp only [VR] at hv
      obtain ⟨μ', v', w', h1, h2, h3⟩ := aMakeMapH_ok (P := P) (k := ki) (z := zi) hd W
      exact ⟨μ', v', w', .inl (by simp only [execOp, Option.map_some, hv, Sem.run_bind, h1, Result.andThen, Sem.run_pure]), h2, h3⟩
    · cases h
  · split at h
    · rename_i x y hx hy
      obtain ⟨μ', v', w', h1, h2, h3⟩ := aMakeSlice_ok (P := P) W (opv_ok hl hx) (opv_ok hl hy) h
      exact ⟨μ', v', w', .inl (by simp [execOp, h1]), h2, h3⟩
    · cases h
  · split at h
    · rename_i hp
      cases h
      unfold aStrO at hp
      split at hp
      · rename_i x lo hi hx hlo hhi
        obtain ⟨h1, h2⟩ := aStrS_ok (P := P) (w := w) (opv_ok hl hx) (opvo_ok hl hlo) (opvo_ok hl hhi) hp
        exact .same W (by simp only [execOp, Option.map_none, Sem.run_bind, h1, Result.andThen, Sem.run_pure]) h2
      · cases hp
    · split at h
      · rename_i hp; cases h; exact aPure_ok W hl hp
      · split at h
        · rename_i x lo hi hx hlo hhi
          replace h := o1_ok h; obtain ⟨h, rfl⟩ := h
          obtain ⟨v', h1, h2⟩ := aSlice_ok (P := P) W (opv_ok hl hx) (opvo_ok hl hlo) (opvo_ok hl hhi) h
          exact .same W (by simp only [execOp, Option.map_none, Sem.run_bind, h1, Result.andThen, Sem.run_pure]) h2
        · cases h
  · split at h
    · rename_i x hx
      replace h := o1_ok h; obtain ⟨h, rfl⟩ := h
      obtain ⟨v', h1, h2⟩ := aField_ok (w := w) (opv_ok hl hx) h
      exact .same W (by simp [execOp, h1]) h2
    · cases h
  · split at h
    · rename_i x hx
      replace h := o1_ok h; obtain ⟨h, rfl⟩ := h
      obtain ⟨v', h1, h2⟩ := aFieldV_ok (w := w) (opv_ok hl hx) h
      exact .same W (by simp [execOp, h1]) h2
    · cases h
  · split at h
    · rename_i x y hx hy
      replace h := o1_ok h; obtain ⟨h, rfl⟩ := h
      obtain ⟨v', h1, h2⟩ := aIndex_ok (w := w) (opv_ok hl hx) (opv_ok hl hy) h
      exact .same W (by simp [execOp, h1]) h2
    · cases h
  · split at h
    · rename_i x y hx hy
      replace h := o1_ok h; obtain ⟨h, rfl⟩ := h
      obtain ⟨v', h1, h2⟩ := aLookup_ok (P := P) W (opv_ok hl hx) (opv_ok hl hy) h
      exact .same W (by simp [execOp, h1]) h2
    · cases h
  · split at h
    · rename_i m k x hm hk hx
      split at h
      · rename_i A1 hs
        cases h
        obtain ⟨w', h1, h2, h3⟩ := aUpdate_ok (P := P) W (opv_ok hl hm) (opv_ok hl hk) (opv_ok hl hx) hs
        exact ⟨μ, undef, w', .inr ⟨by simp [execOp, h1], rfl⟩, VR_undef, h2, h3⟩
      · cases h
    · cases h
  · split at h
    · rename_i m k x hm hk hx
      split at h
      · rename_i A1 hs
        cases h
        obtain ⟨w', h1, h2, h3⟩ := aUpdate_ok (P := P) W (opv_ok hl hm) (opv_ok hl hk) (opv_ok hl hx) hs
        exact ⟨μ, undef, w', .inr ⟨by simp [execOp, h1], rfl⟩, VR_undef, h2, h3⟩
      · cases h
    · cases h
  · split at h
    · rename_i x hx
      replace h := o1_ok h; obtain ⟨h, rfl⟩ := h
      obtain ⟨v', h1, h2⟩ := aExtract_ok (P := P) (w := w) (opv_ok hl hx) h
      exact .same W (by simp [execOp, h1]) h2
    · cases h
  · exact aBuiltin_ok W hl h
  · cases h
end Ev
end Go.Proofs.Ytkjnaamlhkldmab
