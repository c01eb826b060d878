import Derived.Test.YtkjnaamlhkldmabEv2
import Derived.Laws.Entries
namespace Go.Proofs.Ytkjnaamlhkldmab
namespace Ev
variable {P : Program} {μ : Mu} {A : AW} {w : World}

/-- What is known of the slots. -/
abbrev Env := Tr Value
def TR (μ : Mu) (l : Env) (l' : List Value) : Prop := ∀ (t : Nat) (v : Value), l.get t = some v → ∃ v', l'[t]? = some v' ∧ VR μ v v'
theorem TR.mono {μ μ' : Mu} {l : Env} {l' : List Value} (h : Le μ μ') (r : TR μ l l') : TR μ' l l' := fun t v hv => by
  obtain ⟨v', h1, h2⟩ := r t v hv
  exact ⟨v', h1, h2.mono h⟩
/-- A scalar without an address. -/
noncomputable def flat0 (v : Value) : Bool := Value.casesOn (motive_1 := fun _ => Bool) v (fun _ => true) (fun _ _ => true) (fun _ _ => true) (fun _ _ _ => false) (fun _ => true)
  (fun a => Option.rec (motive := fun _ => Bool) true (fun _ => false) a) (fun a _ _ => Option.rec (motive := fun _ => Bool) true (fun _ => false) a) (fun a => Option.rec (motive := fun _ => Bool) true (fun _ => false) a)
  (fun _ => false) (fun _ _ _ => false) true (fun _ _ => false) true (fun _ => false) (fun _ => false)
theorem flat0_flat {v : Value} (h : flat0 v = true) : flat v = true := by
  cases v with
  | pointer a => cases a <;> first | rfl | cases h
  | slice a n c => cases a <;> first | rfl | cases h
  | map a => cases a <;> first | rfl | cases h
  | bool _ => rfl
  | int _ _ => rfl
  | float _ _ => rfl
  | string _ => rfl
  | nilFunc => rfl
  | nilIface => rfl
  | complex _ _ _ => cases h
  | chan _ => cases h
  | func _ _ _ => cases h
  | iface _ _ => cases h
  | agg _ => cases h
  | tuple _ => cases h
noncomputable def opv (l : Env) : Operand → Option Value
  | .tmp t => l.get t
  | .const v => if flat0 v || flat v then some v else none
  | .global g => match gloc g with
    | some _ => some (.pointer (some ⟨g, 0, none⟩))
    | none => none
  | .func f => some (.func (.func f) #[] #[])
theorem VR_fn {f : FuncId} : VR μ (.func (.func f) #[] #[]) (.func (.func f) #[] #[]) := by
  simp only [VR]; exact ⟨_, _, rfl, LR.nil, LR.nil⟩
theorem opv_ok {l : Env} {a : Act} {x : Operand} {v : Value} (h : TR μ l a.tmps.toList) (hx : opv l x = some v) : VR μ v (a.eval x) := by
  cases x with
  | tmp t =>
    simp only [opv] at hx
    obtain ⟨v', h1, h2⟩ := h t v hx
    have : a.tmps[t]? = some v' := by rw [← Array.getElem?_toList]; exact h1
    simp only [Act.eval]
    rw [Array.getD_eq_getD_getElem?, this]
    exact h2
  | const c =>
    simp only [opv] at hx
    split at hx
    · cases hx
      rename_i hf
      rw [Bool.or_eq_true] at hf
      exact flat_VR (hf.elim flat0_flat id)
    · cases hx
  | global g =>
    simp only [opv] at hx
    split at hx
    · rename_i s hg
      cases hx
      simp only [VR]
      exact ⟨_, rfl, rfl, _, μ.glob g s hg, rfl⟩
    · cases hx
  | func f => cases hx; exact VR_fn
noncomputable def opvs (l : Env) : List Operand → Option (List Value)
  | [] => some []
  | x :: xs => match opv l x, opvs l xs with
    | some v, some vs => some (v :: vs)
    | _, _ => none
theorem opvs_ok {l : Env} {a : Act} (h : TR μ l a.tmps.toList) : ∀ {xs : List Operand} {vs : List Value}, opvs l xs = some vs → LR μ vs (xs.map a.eval)
  | [], _, hx => by cases hx; exact LR.nil
  | x :: xs, vs, hx => by
    simp only [opvs] at hx
    split at hx
    · rename_i v us h1 h2
      cases hx
      exact LR.cons (opv_ok h h1) (opvs_ok h h2)
    · cases hx

def Res (P : Program) (ρ : Operand → Value) (o : Oper) (w : World) (v : Value) (w' : World) : Prop :=
  (execOp ρ o).run P w = .ok (.value v) w' ∨ ((execOp ρ o).run P w = .ok .skip w' ∧ v = undef)
def OpOK (P : Program) (ρ : Operand → Value) (o : Oper) (μ : Mu) (A : AW) (w : World) (v : Value) (A' : AW) : Prop :=
  ∃ μ' v' w', Res P ρ o w v' w' ∧ VR μ' v v' ∧ WR μ' A' w' ∧ Ext μ A w μ' A' w'
theorem OpOK.same {ρ : Operand → Value} {o : Oper} {v v' : Value} (W : WR μ A w) (h : (execOp ρ o).run P w = .ok (.value v') w) (hv : VR μ v v') : OpOK P ρ o μ A w v A :=
  ⟨μ, v', w, .inl h, hv, W, Ext.refl⟩
theorem VR_undef : VR μ undef undef := by simp only [undef, VR]; exact ⟨_, rfl, LR.nil⟩

/-! runs of the model's small parts -/
theorem rT {t : TypeId} {i : TypeInfo} (h : P.info? t = some i) : (typeInfo t).run P w = .ok i w := by simp [typeInfo, h]
theorem rU {t : TypeId} {d : TypeDesc} (h : P.underlying t = some d) : (underlying t).run P w = .ok d w := run_underlying h w
theorem rS {t : TypeId} {i : TypeInfo} (h : P.info? t = some i) : (sizeOf t).run P w = .ok i.size w := by simp [sizeOf, rT h]
theorem rZ {t : TypeId} {i : TypeInfo} {z : Value} (h : P.info? t = some i) (hz : i.zero = some z) : (zeroValue t).run P w = .ok z w := by simp [zeroValue, rT h, hz]
def aggB : TypeDesc → Bool
  | .struct _ | .array _ _ => true
  | _ => false
theorem rAgg {t : TypeId} {d : TypeDesc} (h : P.underlying t = some d) : (isAgg t).run P w = .ok (aggB d) w := by
  simp only [isAgg, Sem.run_bind, rU h, Result.andThen]
  cases d <;> simp [aggB]

/-! pure operations -/
def pureRun {α : Type} (P : Program) : Sem α → Option α
  | .pure a => some a
  | .program k => pureRun P (k P)
  | _ => none
theorem pureRun_ok {α : Type} : ∀ {s : Sem α} {a : α}, pureRun P s = some a → s.run P w = .ok a w
  | .pure _, _, h => by cases h; rfl
  | .program k, a, h => by
    simp only [pureRun] at h
    simp only [Sem.run]
    exact pureRun_ok h
  | .load _ _ _, _, h | .store _ _ _ _, _, h | .new _ _, _, h | .shape _ _, _, h | .freeze _ _ _, _, h | .frozen _ _, _, h | .getObj _ _, _, h | .setObj _ _ _, _, h | .choose _ _, _, h | .sys _ _, _, h | .mark _ _, _, h | .halt _, _, h => by cases h
/-- The operands of those operations that may be worked out without memory. -/
def pureOps : Op → Option (List Operand)
  | .binOp _ _ x y _ => some [x, y]
  | .unOp _ _ x | .convert _ _ x => some [x]
  | .index _ x y => some [x, y]
  | .slice _ x none none none => some [x]
  | .slice _ x (some y) none none | .slice _ x none (some y) none => some [x, y]
  | .slice _ x (some y) (some z) none => some [x, y, z]
  | .call { callee := .builtin .len, args := ⟨[x]⟩, argTypes := _ } => some [x]
  | .call { callee := .builtin .max, args := ⟨[x, y]⟩, argTypes := _ } | .call { callee := .builtin .min, args := ⟨[x, y]⟩, argTypes := _ } => some [x, y]
  | _ => none
theorem exec_congr {ρ ρ' : Operand → Value} {o : Oper} {xs : List Operand} (h : pureOps o.op = some xs) (he : ∀ x ∈ xs, ρ x = ρ' x) : execOp ρ o = execOp ρ' o := by
  obtain ⟨dst, op, type, pos, after, guard⟩ := o
  simp only at h
  unfold pureOps at h
  split at h <;> first
    | (cases h; simp only [List.mem_cons, List.not_mem_nil, or_false, forall_eq_or_imp, forall_eq] at he; simp [execOp, he, resolve]; done)
    | (cases h; done)
def isAgV : Value → Bool
  | .agg _ => true
  | _ => false
noncomputable def flat1 (v : Value) : Bool := flat0 v || (isAgV v && flat v)
theorem flat1_flat {v : Value} (h : flat1 v = true) : flat v = true := by
  unfold flat1 at h
  rw [Bool.or_eq_true, Bool.and_eq_true] at h
  exact h.elim flat0_flat (·.2)
noncomputable def flatAll (l : Env) : List Operand → Bool
  | [] => true
  | x :: xs => match opv l x with
    | some v => flat1 v && flatAll l xs
    | none => false
noncomputable def ρA (l : Env) (x : Operand) : Value := (opv l x).getD undef
/-! ways of their own for what comes most often: numbers -/
def fastI (op : BinOp) (k : IntKind) (a b : Int) : Option Value := match op with
  | .add => some (.int k (k.wrap (a + b)))
  | .sub => some (.int k (k.wrap (a - b)))
  | .mul => some (.int k (k.wrap (a * b)))
  | .eql => some (.bool (a == b))
  | .neq => some (.bool (a != b))
  | .lss => some (.bool (decide (a < b)))
  | .leq => some (.bool (decide (a ≤ b)))
  | .gtr => some (.bool (decide (a > b)))
  | .geq => some (.bool (decide (a ≥ b)))
  | _ => none
theorem fastI_ok {op : BinOp} {k : IntKind} {t : TypeId} {x y : Operand} {a b : Int} {v : Value} (h : fastI op k a b = some v) : (do eqGuard op t x y (.int k a) (.int k b); binOp op t (.int k a) (.int k b) : Sem Value).run P w = .ok v w := by
  unfold fastI at h
  split at h <;> first
    | (cases h; simp [eqGuard, binOp, Op.intArith, Op.intCmp]; done)
    | cases h
theorem fastI_flat {op : BinOp} {k : IntKind} {a b : Int} {v : Value} (h : fastI op k a b = some v) : flat v = true := by
  unfold fastI at h
  split at h <;> first
    | (cases h; rfl)
    | cases h
def getL : List UInt8 → Nat → Option UInt8
  | [], _ => none
  | b :: _, 0 => some b
  | _ :: l, n + 1 => getL l n
theorem getL_is : ∀ (l : List UInt8) (n : Nat), getL l n = l[n]?
  | [], n => by simp [getL]
  | b :: l, 0 => rfl
  | b :: l, n + 1 => by rw [getL, getL_is l n]; simp
def fastB (op : BinOp) (x y : Value) : Option Value := match x with
  | .int .i64 a => match y with
    | .int .i64 b => fastI op .i64 a b
    | _ => none
  | .int .u8 a => match y with
    | .int .u8 b => fastI op .u8 a b
    | _ => none
  | .int .i32 a => match y with
    | .int .i32 b => fastI op .i32 a b
    | _ => none
  | _ => none
theorem fastB_ok {op : BinOp} {u z v : Value} (h : fastB op u z = some v) : ∃ k a b, u = .int k a ∧ z = .int k b ∧ fastI op k a b = some v := by
  unfold fastB at h
  split at h
  · split at h
    · exact ⟨_, _, _, rfl, rfl, h⟩
    · cases h
  · split at h
    · exact ⟨_, _, _, rfl, rfl, h⟩
    · cases h
  · split at h
    · exact ⟨_, _, _, rfl, rfl, h⟩
    · cases h
  · cases h
theorem getL_str {s : ByteArray} {n : Nat} {b : UInt8} (h : getL s.data.toList n = some b) : s[n]? = some b := by
  rw [getL_is] at h
  obtain ⟨hn, hb⟩ := List.getElem?_eq_some_iff.1 h
  have hn' : n < s.size := by simpa using hn
  rw [getElem?_pos s n hn']
  exact congrArg some hb
noncomputable def fastC (P : Program) (s d : TypeId) (x : Value) : Option Value := match x with
  | .int _ n => match P.underlying s with
    | some _ => match P.underlying d with
      | some (.int k) => some (.int k (k.wrap n))
      | _ => none
    | _ => none
  | _ => none
noncomputable def fastX (P : Program) (t : TypeId) (x i : Value) : Option Value := match x with
  | .string s => match i with
    | .int _ (.ofNat z) => match P.underlying t with
      | some .string => match getL s.data.toList z with
        | some b => some (.int .u8 (.ofNat b.toNat))
        | none => none
      | _ => none
    | _ => none
  | _ => none
noncomputable def fastP (P : Program) (l : Env) (o : Oper) : Option Value := match o.op with
  | .binOp op _ x y _ => match opv l x with
    | some a => match opv l y with
      | some b => fastB op a b
      | _ => none
    | _ => none
  | .convert s d x => match opv l x with
    | some a => fastC P s d a
    | _ => none
  | .index t x i => match opv l x with
    | some a => match opv l i with
      | some b => fastX P t a b
      | _ => none
    | _ => none
  | _ => none
theorem fastP_ok {l : Env} {a : Act} {o : Oper} {v : Value} (W : WR μ A w) (h : TR μ l a.tmps.toList) (hp : fastP P l o = some v) : OpOK P a.eval o μ A w v A := by
  obtain ⟨dst, op, type, pos, after, guard⟩ := o
  unfold fastP at hp
  simp only at hp
  split at hp
  · split at hp
    · rename_i hx
      split at hp
      · rename_i hy
        have e1 := opv_ok h hx
        have e2 := opv_ok h hy
        obtain ⟨k, n, m, rfl, rfl, hq⟩ := fastB_ok hp
        have e1 := flat_eq rfl e1
        have e2 := flat_eq rfl e2
        have h5 := fun t x y => fastI_ok (P := P) (w := w) (t := t) (x := x) (y := y) hq
        exact .same W (by simp only [execOp, e1, e2, Sem.run_bind, Result.andThen, Sem.run_pure] ; simp only [Sem.run_bind, Result.andThen] at h5; simp only [h5]) (flat_VR (fastI_flat hq))
      · cases hp
    · cases hp
  · split at hp
    · rename_i hx
      unfold fastC at hp
      split at hp
      · split at hp
        · rename_i hs
          split at hp
          · rename_i hd
            cases hp
            have e1 := flat_eq rfl (opv_ok h hx)
            exact .same W (by simp [execOp, e1, convert, run_underlying hs, run_underlying hd, Conv.intToInt]) (flat_VR rfl)
          · cases hp
        · cases hp
      · cases hp
    · cases hp
  · split at hp
    · rename_i hx
      split at hp
      · rename_i hi
        unfold fastX at hp
        split at hp
        · split at hp
          · split at hp
            · rename_i ht
              split at hp
              · rename_i hg
                cases hp
                have e1 := flat_eq rfl (opv_ok h hx)
                have e2 := flat_eq rfl (opv_ok h hi)
                have hg := getL_str hg
                exact .same W (by simp [execOp, e1, e2, Instr.index, run_underlying ht, asIntOf, hg]) (flat_VR rfl)
              · cases hp
            · cases hp
          · cases hp
        · cases hp
      · cases hp
    · cases hp
  · cases hp
noncomputable def aSlow (P : Program) (l : Env) (o : Oper) : Option Value :=
  match pureOps o.op with
  | some xs => if flatAll l xs then
      match pureRun P (execOp (fun | .const v => v | x => ρA l x) o) with
      | some (.value v) => if flat0 v then some v else none
      | _ => none
    else none
  | none => none
theorem flatAll_eq {l : Env} {a : Act} (h : TR μ l a.tmps.toList) : ∀ {xs : List Operand}, flatAll l xs = true → ∀ x ∈ xs, ρA l x = a.eval x
  | [], _, _, hx => by cases hx
  | x :: xs, hf, y, hy => by
    simp only [flatAll] at hf
    split at hf
    · rename_i v hv
      rw [Bool.and_eq_true] at hf
      rcases List.mem_cons.1 hy with rfl | hy
      · have := flat_eq (flat1_flat hf.1) (opv_ok h hv)
        simp [ρA, hv, this]
      · exact flatAll_eq h hf.2 y hy
    · cases hf
theorem aSlow_ok {l : Env} {a : Act} {o : Oper} {v : Value} (W : WR μ A w) (h : TR μ l a.tmps.toList) (hp : aSlow P l o = some v) : OpOK P a.eval o μ A w v A := by
  unfold aSlow at hp
  split at hp
  · rename_i xs hxs
    split at hp
    · rename_i hf
      split at hp
      · rename_i u hu
        split at hp
        · rename_i hfv
          cases hp
          refine .same W ?_ (flat_VR (flat0_flat hfv))
          rw [← exec_congr (ρ := fun | .const v => v | x => ρA l x) hxs (fun x hx => ?_)]
          · exact pureRun_ok hu
          · cases x with
            | const c => rfl
            | _ => exact flatAll_eq h hf _ hx
        · cases hp
      · cases hp
    · cases hp
  · cases hp

noncomputable def aPure (P : Program) (l : Env) (o : Oper) : Option Value := match fastP P l o with
  | some v => some v
  | none => aSlow P l o
theorem aPure_ok {l : Env} {a : Act} {o : Oper} {v : Value} (W : WR μ A w) (h : TR μ l a.tmps.toList) (hp : aPure P l o = some v) : OpOK P a.eval o μ A w v A := by
  unfold aPure at hp
  split at hp
  · cases hp; exact fastP_ok W h (by assumption)
  · exact aSlow_ok W h hp
/-! loads and stores -/
def cellsL : Value → List Value
  | .agg ⟨l⟩ => l
  | v => [v]
theorem cells_LR : ∀ {v v' : Value}, VR μ v v' → LR μ (cellsL v) v'.cells.toList
  | .bool _, _, r | .int _ _, _, r | .float _ _, _, r | .string _, _, r | .pointer none, _, r | .slice none _ _, _, r | .map none, _, r | .nilFunc, _, r | .nilIface, _, r => by
    have r' := r
    simp only [VR] at r; subst r; exact LR.cons r' LR.nil
  | .pointer (some a), _, r => by have r' := r; simp only [VR] at r; obtain ⟨a', rfl, _⟩ := r; exact LR.cons r' LR.nil
  | .slice (some a) n c, _, r => by have r' := r; simp only [VR] at r; obtain ⟨a', c', rfl, _⟩ := r; exact LR.cons r' LR.nil
  | .map (some a), _, r => by have r' := r; simp only [VR] at r; obtain ⟨l, rfl, _⟩ := r; exact LR.cons r' LR.nil
  | .func (.func f) ⟨x⟩ ⟨y⟩, _, r => by have r' := r; simp only [VR] at r; obtain ⟨x', y', rfl, _⟩ := r; exact LR.cons r' LR.nil
  | .func (.method _) _ _, _, r | .func (.methodOf _ _) _ _, _, r | .func (.via _ _ _ _) _ _, _, r | .chan _, _, r | .complex _ _ _, _, r => by simp [VR] at r
  | .func (.yield i) _ _, _, r => by have r' := r; simp only [VR] at r; obtain ⟨_, _, l, rfl, _⟩ := r; exact LR.cons r' LR.nil
  | .iface t u, _, r => by have r' := r; simp only [VR] at r; obtain ⟨u', rfl, _⟩ := r; exact LR.cons r' LR.nil
  | .agg ⟨xs⟩, _, r => by simp only [VR] at r; obtain ⟨u', rfl, h⟩ := r; exact h
  | .tuple ⟨xs⟩, _, r => by have r' := r; simp only [VR] at r; obtain ⟨u', rfl, _⟩ := r; exact LR.cons r' LR.nil
noncomputable def aLoad (P : Program) (A : AW) (t : TypeId) : Value → Option Value
  | .pointer (some a) => match A.get a.block, P.underlying t with
    | some (.cells vs _ _ _ _), some d => if aggB d then
        (match P.info? t with
        | some i => if a.off + i.size ≤ vs.length then some (.agg ⟨(vs.drop a.off).take i.size⟩) else none
        | none => none)
      else vs[a.off]?
    | _, _ => none
  | _ => none
theorem aLoad_var {t : TypeId} {a a' : Addr} {v : Value} (W : WR μ A w) (hv : AR μ a a') (h : aLoad P A t (.pointer (some a)) = some v) :
    ∃ v', (loadVar t a').run P w = .ok v' w ∧ VR μ v v' := by
  simp only [aLoad] at h
  split at h
  · rename_i vs ty op fz es d hg hd
    split at h
    · rename_i hagg
      split at h
      · rename_i i hi
        split at h
        · rename_i hn
          cases h
          obtain ⟨xs', h1, h2⟩ := load_cells (P := P) W hv hg hn
          refine ⟨.agg xs'.toArray, ?_, ?_⟩
          · simp [loadVar, rAgg hd, hagg, rS hi, h1]
          · simp only [VR]; exact ⟨_, rfl, h2⟩
        · cases h
      · cases h
    · rename_i hagg
      obtain ⟨v', h1, h2⟩ := load_one W hv hg h
      refine ⟨v', ?_, h2⟩
      simp only [loadVar, Sem.run_bind, rAgg hd, Result.andThen, hagg, Bool.false_eq_true, if_false, run_load, h1]
  · cases h
theorem aLoad_ok {t : TypeId} {p p' v : Value} (W : WR μ A w) (hv : VR μ p p') (h : aLoad P A t p = some v) :
    ∃ v', (Instr.loadAt t p').run P w = .ok v' w ∧ VR μ v v' := by
  unfold aLoad at h
  split at h
  · rename_i a
    simp only [VR] at hv
    obtain ⟨a', rfl, ha⟩ := hv
    obtain ⟨v', h1, h2⟩ := aLoad_var W ha (P := P) (t := t) (v := v) (by unfold aLoad; exact h)
    exact ⟨v', by simp [Instr.loadAt, Instr.sureAddr, h1], h2⟩
  · cases h
noncomputable def aStore (P : Program) (A : AW) (t : TypeId) (v : Value) : Value → Option AW
  | .pointer (some a) => match A.get a.block, P.info? t with
    | some (.cells vs ty op fz es), some i =>
      if (cellsL v).length = i.size ∧ (cellsL v).all (·.oneCell') = true ∧ a.off + (cellsL v).length ≤ vs.length ∧ FZok fz a.off = true then
        some (A.set a.block (some (.cells (splice vs a.off (cellsL v)) ty op fz es)))
      else none
    | _, _ => none
  | _ => none
theorem aStore_ok {t : TypeId} {p p' v v' : Value} {A' : AW} (W : WR μ A w) (hp : VR μ p p') (hv : VR μ v v') (h : aStore P A t v p = some A') :
    ∃ w', (Instr.storeAt t p' v').run P w = .ok () w' ∧ WR μ A' w' ∧ Ext μ A w μ A' w' := by
  unfold aStore at h
  split at h
  · rename_i a
    simp only [VR] at hp
    obtain ⟨a', rfl, ha⟩ := hp
    split at h
    · rename_i vs ty op fz es i hg hi
      split at h
      · rename_i hc
        obtain ⟨h1, h2, h3, h4⟩ := hc
        cases h
        have hL := cells_LR hv
        obtain ⟨w', h5, h6⟩ := store_cells (P := P) W ha hg hL h2 h3 h4
        refine ⟨w', ?_, h6⟩
        have hsz : v'.cells.size = i.size := by rw [← h1, ← hL.len]; simp
        simp [Instr.storeAt, Instr.sureAddr, storeVar, rS hi, hsz, h5]
      · cases h
    · cases h
  · cases h
/-! new rows -/
theorem new_row {cs cs' : List Value} {t es : Nat} (W : WR μ A w) (h : LR μ cs cs') :
    ∃ w', (newRow t cs'.toArray).run P w = .ok ⟨w.heap.size, 0, none⟩ w' ∧ WR (μ.add A.next ⟨w.heap.size, 0, cs.length, es⟩) (A.push (.cells cs t false none es)) w' ∧ Ext μ A w (μ.add A.next ⟨w.heap.size, 0, cs.length, es⟩) (A.push (.cells cs t false none es)) w' := by
  refine ⟨{ w with heap := w.heap.push (.cells cs'.toArray t) }, by simp [newRow], W.new ?_⟩
  have hle := Mu.add_le (x := ⟨w.heap.size, 0, cs.length, es⟩) (W.dom A.next (Nat.le_refl _))
  refine ⟨_, _, rfl, by simp [h.len], by simp, by simp, rfl, ?_, rfl⟩
  simp only [List.drop_zero]
  rw [List.take_of_length_le (by simp [h.len])]
  exact h.mono hle
theorem AR_new {n : Nat} {l : Loc} (h : μ n = none) : AR (μ.add n l) ⟨n, 0, none⟩ ⟨l.b, l.d, none⟩ := ⟨rfl, l, Mu.add_get h, by simp⟩
def aNew (A : AW) (t : TypeId) (cs : List Value) (es : Nat) : Value × AW := (.pointer (some ⟨A.next, 0, none⟩), A.push (.cells cs t false none es))
theorem aNew_ok {t es : Nat} {v v' : Value} (W : WR μ A w) (hv : VR μ v v') :
    ∃ μ' p' w', (Instr.box t v').run P w = .ok p' w' ∧ VR μ' (aNew A t (cellsL v) es).1 p' ∧ WR μ' (aNew A t (cellsL v) es).2 w' ∧ Ext μ A w μ' (aNew A t (cellsL v) es).2 w' := by
  obtain ⟨w', h1, h2, h3⟩ := new_row (P := P) (t := t) (es := es) W (cells_LR hv)
  have e : v'.cells.toList.toArray = v'.cells := by simp
  rw [e] at h1
  refine ⟨_, _, w', by simp [Instr.box, newVar, h1]; rfl, ?_, h2, h3⟩
  simp only [aNew, VR]
  exact ⟨_, rfl, AR_new (W.dom _ (Nat.le_refl _))⟩
end Ev
end Go.Proofs.Ytkjnaamlhkldmab
