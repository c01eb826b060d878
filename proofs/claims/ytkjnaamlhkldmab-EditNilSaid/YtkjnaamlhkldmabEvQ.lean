/- The evaluator's step by short definitions: the same as evOp1 and evOps, and sooner worked out. -/
import Derived.Test.YtkjnaamlhkldmabEv12
namespace Go.Proofs.Ytkjnaamlhkldmab
namespace Ev
variable {P : Program}
noncomputable def lo (o : Oper) (x : Option (Value × AW)) : Except String (O1 × AW) := match x with
  | some (v, A') => .ok (.val v, A')
  | none => .error ("op: " ++ o.pos)
noncomputable def sPick (l : Env) (A : AW) (c a b : Operand) : Option (Value × AW) := match opv l c with
    | some (.bool true) => o1 (opv l a) A
    | some (.bool false) => o1 (opv l b) A
    | _ => none
noncomputable def sAlloc (P : Program) (A : AW) (t : TypeId) : Option (Value × AW) := match P.info? t with
    | some i => match i.zero with
      | some z => if flat z then some (aNew A t (cellsL z) 1) else none
      | none => none
    | none => none
noncomputable def sBox (l : Env) (A : AW) (t : TypeId) (x : Operand) : Option (Value × AW) := match opv l x with
    | some v => some (aNew A t (cellsL v) 1)
    | none => none
noncomputable def sLoad (P : Program) (l : Env) (A : AW) (t : TypeId) (x : Operand) : Option (Value × AW) := match opv l x with
    | some p => o1 (aLoad P A t p) A
    | none => none
noncomputable def sStore (P : Program) (l : Env) (A : AW) (t : TypeId) (x y : Operand) : Option (Value × AW) := match opv l x, opv l y with
    | some p, some v => match aStore P A t v p with
      | some A' => some (undef, A')
      | none => none
    | _, _ => none
noncomputable def sNil (l : Env) (A : AW) (x : Operand) : Option (Value × AW) := match opv l x with
    | some v => if notNil v then some (v, A) else none
    | none => none
noncomputable def sBinL (P : Program) (l : Env) (o : Oper) (A : AW) (op : BinOp) (t : TypeId) (x y : Operand) : Option (Value × AW) := match aPure P l o with
    | some v => some (v, A)
    | none => match opv l x, opv l y with
      | some a, some b => o1 (aEq P A op t a b) A
      | _, _ => none
noncomputable def sConv (P : Program) (l : Env) (o : Oper) (A : AW) (s d : TypeId) (x : Operand) : Option (Value × AW) := match aPure P l o with
    | some v => some (v, A)
    | none => match opv l x with
      | some v => match aB2S P A s d v with
        | some r => some (r, A)
        | none => match aUnsafe P A s d v with
          | some r => some (r, A)
          | none => match P.underlying s with
            | some _ => aS2B P A d v
            | none => none
      | none => none
noncomputable def sRange (P : Program) (l : Env) (A : AW) (t : TypeId) (x : Operand) : Option (Value × AW) := match opv l x with
    | some v => aRange P A t v
    | none => none
noncomputable def sNext (l : Env) (A : AW) (x : Operand) (str : Bool) : Option (Value × AW) := match opv l x with
    | some v => aNext A str v
    | none => none
noncomputable def sIface (P : Program) (l : Env) (A : AW) (t : TypeId) (x : Operand) : Option (Value × AW) := match opv l x with
    | some v => o1 (aIface P t v) A
    | none => none
noncomputable def sMkS (P : Program) (l : Env) (A : AW) (t : TypeId) (x y : Operand) : Option (Value × AW) := match opv l x, opv l y with
    | some a, some b => aMakeSlice P A t a b
    | _, _ => none
noncomputable def sSlice (P : Program) (l : Env) (o : Oper) (A : AW) (t : TypeId) (x : Operand) (lo hi : Option Operand) : Option (Value × AW) := match aStrO P l t x lo hi with
    | some v => some (v, A)
    | none => match aPure P l o with
      | some v => some (v, A)
      | none => match opv l x, opvo l lo, opvo l hi with
        | some v, some a, some b => o1 (aSlice P A t a b v) A
        | _, _, _ => none
noncomputable def sFA (P : Program) (l : Env) (A : AW) (s : TypeId) (x : Operand) (f : Nat) : Option (Value × AW) := match opv l x with
    | some v => o1 (aField P s f v) A
    | none => none
noncomputable def sF (P : Program) (l : Env) (A : AW) (t : TypeId) (x : Operand) (f : Nat) : Option (Value × AW) := match opv l x with
    | some v => o1 (aFieldV P t f v) A
    | none => none
noncomputable def sIA (P : Program) (l : Env) (A : AW) (t : TypeId) (x i : Operand) : Option (Value × AW) := match opv l x, opv l i with
    | some a, some b => o1 (aIndex P t a b) A
    | _, _ => none
noncomputable def sLook (P : Program) (l : Env) (A : AW) (t : TypeId) (x k : Operand) (ok : Bool) : Option (Value × AW) := match opv l x, opv l k with
    | some a, some b => o1 (aLookup P A t a b ok) A
    | _, _ => none
noncomputable def sUpd (P : Program) (l : Env) (A : AW) (t : TypeId) (m k x : Operand) : Option (Value × AW) := match opv l m, opv l k, opv l x with
    | some a, some b, some c => match aUpdate P A t b c a with
      | some A' => some (undef, A')
      | none => none
    | _, _, _ => none
noncomputable def sExt (l : Env) (A : AW) (x : Operand) (i : Nat) : Option (Value × AW) := match opv l x with
    | some v => o1 (aExtract i v) A
    | none => none
noncomputable def fBi (l : Env) (op : BinOp) (x y : Operand) : Option Value := match opv l x with
    | some a => match opv l y with
      | some b => fastB op a b
      | _ => none
    | _ => none
noncomputable def sBin (P : Program) (l : Env) (o : Oper) (A : AW) (op : BinOp) (t : TypeId) (x y : Operand) : Option (Value × AW) :=
  Option.rec (motive := fun _ => Option (Value × AW)) (sBinL P l o A op t x y) (fun v => some (v, A)) (fBi l op x y)
theorem sBin_eq {l : Env} {dst : Option Tmp} {type : TypeId} {pos : String} {after : Array Edge} {guard : Option (Nat × Bool)} {A : AW} {op : BinOp} {t s : TypeId} {x y : Operand} :
    sBin P l ⟨dst, .binOp op t x y s, type, pos, after, guard⟩ A op t x y = sBinL P l ⟨dst, .binOp op t x y s, type, pos, after, guard⟩ A op t x y := by
  unfold sBin
  cases h : fBi l op x y with
  | none => rfl
  | some v =>
    have h1 : aPure P l ⟨dst, .binOp op t x y s, type, pos, after, guard⟩ = some v := by
      unfold aPure
      rw [show fastP P l ⟨dst, .binOp op t x y s, type, pos, after, guard⟩ = some v from h]
    unfold sBinL
    rw [h1]
/-- An operation, by its kind. -/
noncomputable def evOp1S (P : Program) (call : CallT) (same : XT) (rd : Option Nat) (o : Oper) (a : AA) (A : AW) : Except String (O1 × AW) :=
  Op.rec (motive := fun _ => Except String (O1 × AW))
    (fun x => lo o (o1 (opv a.tmps x) A))
    (fun x => lo o (o1 (opv a.tmps x) A))
    (fun c x y => lo o (sPick a.tmps A c x y))
    (fun t => lo o (sAlloc P A t))
    (fun t x => lo o (sBox a.tmps A t x))
    (fun t ps => lo o (o1 (aBuild P a.tmps t ps.toList) A))
    (fun t n ps => lo o (aBuildSlice P A a.tmps t n ps.toList))
    (fun t m k x => lo o (sUpd P a.tmps A t m k x))
    (fun t x => lo o (sLoad P a.tmps A t x))
    (fun t x y => lo o (sStore P a.tmps A t x y))
    (fun _ => evOp1 P call same rd o a A)
    (fun _ => evOp1 P call same rd o a A)
    (fun x => lo o (sNil a.tmps A x))
    (fun op t x y _ => lo o (sBin P a.tmps o A op t x y))
    (fun _ _ _ => lo o (o1 (aPure P a.tmps o) A))
    (fun s d x => lo o (sConv P a.tmps o A s d x))
    (fun _ _ => evOp1 P call same rd o a A)
    (fun t x => lo o (sIface P a.tmps A t x))
    (fun _ _ _ => evOp1 P call same rd o a A)
    (fun _ _ => evOp1 P call same rd o a A)
    (fun _ _ => evOp1 P call same rd o a A)
    (fun t x y => lo o (sMkS P a.tmps A t x y))
    (fun t x l h m => Option.rec (motive := fun _ => Except String (O1 × AW)) (lo o (sSlice P a.tmps o A t x l h)) (fun _ => evOp1 P call same rd o a A) m)
    (fun s x f => lo o (sFA P a.tmps A s x f))
    (fun s x f => lo o (sF P a.tmps A s x f))
    (fun t x i => lo o (sIA P a.tmps A t x i))
    (fun _ _ _ => lo o (o1 (aPure P a.tmps o) A))
    (fun t x k ok => lo o (sLook P a.tmps A t x k ok))
    (fun t m k x => lo o (sUpd P a.tmps A t m k x))
    (fun _ _ _ => evOp1 P call same rd o a A)
    (fun _ _ _ _ => evOp1 P call same rd o a A)
    (fun t x => lo o (sRange P a.tmps A t x))
    (fun x str => lo o (sNext a.tmps A x str))
    (fun _ => evOp1 P call same rd o a A)
    (fun _ _ _ _ => evOp1 P call same rd o a A)
    (fun x i => lo o (sExt a.tmps A x i))
    (fun _ => evOp1 P call same rd o a A)
    (fun _ => evOp1 P call same rd o a A)
    (fun _ => evOp1 P call same rd o a A)
    (fun _ => evOp1 P call same rd o a A)
    (fun _ _ => evOp1 P call same rd o a A)
    (fun _ _ _ => evOp1 P call same rd o a A)
    (fun _ _ => evOp1 P call same rd o a A) o.op
theorem evOp1S_eq {call : CallT} {same : XT} {rd : Option Nat} {o : Oper} {a : AA} {A : AW} : evOp1S P call same rd o a A = evOp1 P call same rd o a A := by
  obtain ⟨dst, op, type, pos, after, guard⟩ := o
  cases op with
  | binOp op t x y s =>
    show lo _ (sBin P a.tmps ⟨dst, .binOp op t x y s, type, pos, after, guard⟩ A op t x y) = _
    rw [sBin_eq]
    cases rd <;> rfl
  | slice t x l h m => cases m <;> cases rd <;> rfl
  | _ => cases rd <;> rfl
noncomputable def wOp (P : Program) (call : CallT) (same : XT) (rd : Option Nat) (o : Oper) (a : AA) (A : AW) (k : AA → AW → Except String (AX × AA × AW)) : Except String (AX × AA × AW) := match evOp1S P call same rd o a A with
  | .ok (.val v, A') => fV v fun v => fPutE a o.dst v fun a' => fW A' fun A' => k a' A'
  | .ok (.dfr d, A') => fDef d fun d => fPutE { a with defers := d :: a.defers } o.dst undef fun a' => k a' A'
  | .ok (.panic v, A') => fV v fun v => fW A' fun A' => .ok (.panic v, a, A')
  | .error s => .error s
noncomputable def gOp (P : Program) (call : CallT) (same : XT) (rd : Option Nat) (ops : Array Oper) (o : Oper) (a : AA) (A : AW) (k : AA → AW → Except String (AX × AA × AW)) : Except String (AX × AA × AW) := match wantedE ops a.tmps o with
  | some true => wOp P call same rd o a A k
  | some false => fPutE a o.dst undef fun a' => k a' A
  | none => .error ("guard: " ++ o.pos)
noncomputable def evOpsL (P : Program) (call : CallT) (same : XT) (rd : Option Nat) (ops : Array Oper) (l : List Oper) : AA → AW → Except String (AX × AA × AW) :=
  List.rec (motive := fun _ => AA → AW → Except String (AX × AA × AW)) (fun a A => .ok (.normal, a, A)) (fun o _ ih a A => gOp P call same rd ops o a A ih) l
theorem evOpsL_from {call : CallT} {same : XT} {rd : Option Nat} {ops : Array Oper} : ∀ (r : List Oper) (k : Nat), (∀ j, ops[k + j]? = r[j]?) → ∀ a A, evOpsL P call same rd ops r a A = evOps P call same rd ops (List.range' k r.length) a A
  | [], _, _, _, _ => rfl
  | o :: r, k, h, a, A => by
    have h0 : ops[k]? = some o := by simpa using h 0
    have ih := evOpsL_from (call := call) (same := same) (rd := rd) r (k + 1) (fun j => by have := h (j + 1); rw [List.getElem?_cons_succ] at this; rw [← this]; congr 1; omega)
    rw [List.length_cons, List.range'_succ]
    show gOp P call same rd ops o a A (evOpsL P call same rd ops r) = _
    simp only [evOps, h0]
    unfold gOp
    cases wantedE ops a.tmps o with
    | none => rfl
    | some b =>
      cases b with
      | false => simp only [ih]
      | true =>
        simp only [wOp, evOp1S_eq, ih]
        cases evOp1 P call same rd o a A with
        | error s => rfl
        | ok p => obtain ⟨x, A'⟩ := p; cases x <;> rfl
theorem evOpsL_eq {call : CallT} {same : XT} {rd : Option Nat} {ops : Array Oper} {a : AA} {A : AW} : evOpsL P call same rd ops ops.toList a A = evOps P call same rd ops (List.range ops.size) a A := by
  rw [evOpsL_from ops.toList 0 (fun j => by simp), List.range_eq_range']
  simp
end Ev
end Go.Proofs.Ytkjnaamlhkldmab
