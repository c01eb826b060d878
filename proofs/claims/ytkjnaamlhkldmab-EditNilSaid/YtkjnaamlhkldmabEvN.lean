import Derived.Test.YtkjnaamlhkldmabEv11
namespace Go.Proofs.Ytkjnaamlhkldmab
namespace Ev
/-! Everything that is kept is worked out as it is made (the kernel works out nothing before it is asked). -/
noncomputable def fN {α : Type} (n : Nat) (k : Nat → α) : α := Nat.rec (motive := fun _ => α) (k 0) (fun m _ => k (Nat.succ m)) n
theorem fN_eq {α : Type} (n : Nat) (k : Nat → α) : fN n k = k n := by cases n <;> rfl
noncomputable def fI {α : Type} (n : Int) (k : Int → α) : α := Int.rec (motive := fun _ => α) (fun m => fN m fun m => k (.ofNat m)) (fun m => fN m fun m => k (.negSucc m)) n
theorem fI_eq {α : Type} (n : Int) (k : Int → α) : fI n k = k n := by cases n <;> simp only [fI, fN_eq]
noncomputable def fB {α : Type} (b : Bool) (k : Bool → α) : α := Bool.rec (motive := fun _ => α) (k false) (k true) b
theorem fB_eq {α : Type} (b : Bool) (k : Bool → α) : fB b k = k b := by cases b <;> rfl
noncomputable def fU {α : Type} (l : List UInt8) : (List UInt8 → α) → α :=
  List.rec (motive := fun _ => (List UInt8 → α) → α) (fun k => k []) (fun u _ ih k => fN u.toNat fun n => ih fun r => k (UInt8.ofNat n :: r)) l
theorem fU_eq {α : Type} : ∀ (l : List UInt8) (k : List UInt8 → α), fU l k = k l
  | [], k => rfl
  | u :: r, k => by
    show fN u.toNat (fun n => fU r fun r => k (UInt8.ofNat n :: r)) = _
    simp only [fN_eq, fU_eq r, UInt8.ofNat_toNat]
noncomputable def fS {α : Type} (s : ByteArray) (k : ByteArray → α) : α := fU s.data.toList fun l => k ⟨⟨l⟩⟩
theorem fS_eq {α : Type} (s : ByteArray) (k : ByteArray → α) : fS s k = k s := by obtain ⟨⟨l⟩⟩ := s; simp only [fS, fU_eq]
noncomputable def fA {α : Type} (a : Addr) (k : Addr → α) : α :=
  Addr.rec (motive := fun _ => α) (fun b o s => Option.rec (motive := fun _ => α) (fN b fun b => fN o fun o => k ⟨b, o, none⟩) (fun s => k ⟨b, o, some s⟩) s) a
theorem fA_eq {α : Type} (a : Addr) (k : Addr → α) : fA a k = k a := by obtain ⟨b, o, s⟩ := a; cases s <;> simp only [fA, fN_eq]
/-- A scalar. -/
noncomputable def fV0 {α : Type} (v : Value) (k : Value → α) : α :=
  Value.casesOn (motive_1 := fun _ => α) v (fun b => fB b fun b => k (.bool b)) (fun x n => fI n fun n => k (.int x n)) (fun x n => k (.float x n)) (fun x n m => k (.complex x n m)) (fun s => fS s fun s => k (.string s))
    (fun a => Option.rec (motive := fun _ => α) (k (.pointer none)) (fun a => fA a fun a => k (.pointer (some a))) a)
    (fun a n c => fN n fun n => fN c fun c => Option.rec (motive := fun _ => α) (k (.slice none n c)) (fun a => fA a fun a => k (.slice (some a) n c)) a)
    (fun r => Option.rec (motive := fun _ => α) (k (.map none)) (fun r => fN r fun r => k (.map (some r))) r)
    (fun r => k (.chan r)) (fun f x y => k (.func f x y)) (k .nilFunc) (fun t v => k (.iface t v)) (k .nilIface) (fun x => k (.agg x)) (fun x => k (.tuple x))
theorem fV0_eq {α : Type} (v : Value) (k : Value → α) : fV0 v k = k v := by
  cases v with
  | bool b =>
    show fB b (fun b => k (.bool b)) = _
    rw [fB_eq]
  | int x n =>
    show fI n (fun n => k (.int x n)) = _
    rw [fI_eq]
  | string s =>
    show fS s (fun s => k (.string s)) = _
    rw [fS_eq]
  | pointer a => cases a with
    | none => rfl
    | some a =>
      show fA a (fun a => k (.pointer (some a))) = _
      rw [fA_eq]
  | slice a n c => cases a with
    | none =>
      show fN n (fun n => fN c fun c => k (.slice none n c)) = _
      rw [fN_eq, fN_eq]
    | some a =>
      show fN n (fun n => fN c fun c => fA a fun a => k (.slice (some a) n c)) = _
      rw [fN_eq, fN_eq, fA_eq]
  | map a => cases a with
    | none => rfl
    | some a =>
      show fN a (fun a => k (.map (some a))) = _
      rw [fN_eq]
  | float _ _ => rfl
  | complex _ _ _ => rfl
  | chan _ => rfl
  | func _ _ _ => rfl
  | nilFunc => rfl
  | iface _ _ => rfl
  | nilIface => rfl
  | agg _ => rfl
  | tuple _ => rfl
noncomputable def fVs0 {α : Type} (l : List Value) : (List Value → α) → α :=
  List.rec (motive := fun _ => (List Value → α) → α) (fun k => k []) (fun v _ ih k => fV0 v fun v => ih fun r => k (v :: r)) l
theorem fVs0_eq {α : Type} : ∀ (l : List Value) (k : List Value → α), fVs0 l k = k l
  | [], k => rfl
  | v :: r, k => by
    show fV0 v (fun v => fVs0 r fun r => k (v :: r)) = _
    rw [fV0_eq, fVs0_eq r]
/-- A scalar, or a struct of such. -/
noncomputable def fV1 {α : Type} (v : Value) (k : Value → α) : α :=
  match v with
  | .agg ⟨l⟩ => fVs0 l fun l => k (.agg ⟨l⟩)
  | v => fV0 v k
theorem fV1_eq {α : Type} (v : Value) (k : Value → α) : fV1 v k = k v := by
  unfold fV1
  split
  · rw [fVs0_eq]
  · rw [fV0_eq]
noncomputable def fVs1 {α : Type} (l : List Value) : (List Value → α) → α :=
  List.rec (motive := fun _ => (List Value → α) → α) (fun k => k []) (fun v _ ih k => fV1 v fun v => ih fun r => k (v :: r)) l
theorem fVs1_eq {α : Type} : ∀ (l : List Value) (k : List Value → α), fVs1 l k = k l
  | [], k => rfl
  | v :: r, k => by
    show fV1 v (fun v => fVs1 r fun r => k (v :: r)) = _
    rw [fV1_eq, fVs1_eq r]
noncomputable def fV {α : Type} (v : Value) (k : Value → α) : α :=
  match v with
  | .agg ⟨l⟩ => fVs0 l fun l => k (.agg ⟨l⟩)
  | .tuple ⟨l⟩ => fVs1 l fun l => k (.tuple ⟨l⟩)
  | v => fV0 v k
theorem fV_eq {α : Type} (v : Value) (k : Value → α) : fV v k = k v := by
  unfold fV
  split
  · rw [fVs0_eq]
  · rw [fVs1_eq]
  · rw [fV0_eq]
noncomputable def fM {α : Type} : List MapEntry → (List MapEntry → α) → α
  | [], k => k []
  | ⟨a, b, c⟩ :: r, k => fV0 a fun a => fV1 b fun b => fN c fun c => fM r fun r => k (⟨a, b, c⟩ :: r)
theorem fM_eq {α : Type} : ∀ (l : List MapEntry) (k : List MapEntry → α), fM l k = k l
  | [], k => rfl
  | ⟨a, b, c⟩ :: r, k => by simp only [fM, fV0_eq, fV1_eq, fN_eq, fM_eq r]
noncomputable def fO {α : Type} : Option AObj → (Option AObj → α) → α
  | none, k => k none
  | some (.cells vs t op fz es), k => fVs0 vs fun vs => fN t fun t => fB op fun op => fN es fun es => (match fz with
    | none => k (some (.cells vs t op none es))
    | some z => fN z fun z => k (some (.cells vs t op (some z) es)))
  | some (.map es c), k => fM es fun es => fN c fun c => k (some (.map es c))
  | some (.sit s p), k => fS s fun s => fN p fun p => k (some (.sit s p))
  | some (.dfr op), k => k (some (.dfr op))
  | some (.loop st j ps asg bd t n), k => k (some (.loop st j ps asg bd t n))
theorem fO_eq {α : Type} : ∀ (o : Option AObj) (k : Option AObj → α), fO o k = k o
  | none, k => rfl
  | some (.cells vs t op fz es), k => by cases fz <;> simp only [fO, fVs0_eq, fN_eq, fB_eq]
  | some (.map es c), k => by simp only [fO, fM_eq, fN_eq]
  | some (.sit s p), k => by simp only [fO, fS_eq, fN_eq]
  | some (.dfr op), k => rfl
  | some (.loop st j ps asg bd t n), k => rfl
noncomputable def fLog {α : Type} : List (Nat × Option AObj) → Tr AObj → (Tr AObj → α) → α
  | [], t, k => k t
  | (i, o) :: r, t, k => fLog r t fun t => fN i fun i => fO o fun o => Tr.fput o (Nat.succ i) t i k
noncomputable def layLog : List (Nat × Option AObj) → Tr AObj → Tr AObj
  | [], t => t
  | (i, o) :: r, t => Tr.put o (i + 1) (layLog r t) i
theorem fLog_eq {α : Type} : ∀ (l : List (Nat × Option AObj)) (t : Tr AObj) (k : Tr AObj → α), fLog l t k = k (layLog l t)
  | [], t, k => rfl
  | (i, o) :: r, t, k => by simp only [fLog, layLog, fLog_eq r, fN_eq, fO_eq, Tr.fput_eq]
theorem layLog_get : ∀ (l : List (Nat × Option AObj)) (t : Tr AObj) (j : Nat), (layLog l t).get j = match logGet l j with | some o => o | none => t.get j
  | [], t, j => rfl
  | (i, o) :: r, t, j => by
    simp only [layLog, logGet]
    rw [Tr.get_put _ _ _ _ _ (by omega)]
    by_cases h : j = i
    · simp [h]
    · simp only [h, if_false]
      exact layLog_get r t j
noncomputable def fW {α : Type} (A : AW) (k : AW → α) : α :=
  match A with
  | ⟨[], t, n⟩ => k ⟨[], t, n⟩
  | ⟨x :: l, t, n⟩ => fLog (x :: l) t fun t => fN n fun n => k ⟨[], t, n⟩
noncomputable def layW (A : AW) : AW := ⟨[], layLog A.log A.tree, A.next⟩
theorem fW_eq {α : Type} (A : AW) (k : AW → α) : fW A k = k (layW A) := by
  obtain ⟨l, t, n⟩ := A
  cases l with
  | nil => rfl
  | cons x l => simp only [fW, fLog_eq, fN_eq, layW]
theorem layW_get (A : AW) (j : Nat) : (layW A).get j = A.get j := by
  simp only [layW, AW.get, logGet]
  exact layLog_get A.log A.tree j
theorem WR.lay {μ : Mu} {A : AW} {w : World} (W : WR μ A w) : WR μ (layW A) w :=
  ⟨fun i o l h => W.has i o l (by rwa [layW_get] at h), fun i j oi oj li lj hi hj => W.inj i j oi oj li lj (by rwa [layW_get] at hi) (by rwa [layW_get] at hj), W.dom⟩
theorem Ext.lay {μ μ' : Mu} {A A' : AW} {w w' : World} (E : Ext μ A w μ' A' w') : Ext μ A w μ' (layW A') w' :=
  ⟨E.le, E.size, E.tape, E.os, E.output, E.stay, fun i o l h => E.img i o l (by rwa [layW_get] at h), E.next, E.keep⟩
end Ev
end Go.Proofs.Ytkjnaamlhkldmab
