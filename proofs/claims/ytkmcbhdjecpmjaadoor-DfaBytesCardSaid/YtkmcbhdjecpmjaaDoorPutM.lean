/- What the puts keep: the row of bytes, and how long it is. -/
import Derived.Test.YtkmcbhdjecpmjaaDoorRNum7
import Derived.Test.YtkmcbhdjecpmjaaDoorRCheck7
namespace Go.Proofs.YtkmcbhdjecpmjaaDoor
open Go.RowKit

/-- A row of bytes that is being laid: what it holds, and a bound. -/
structure Byt (B : Nat) (w : World) (vo : Option Addr) (ul vc : Nat) (U : List Nat) (most : Nat) : Prop where
  own : w.ownsRow B 5 1 (.slice vo ul vc) ul (u8n U)
  len : ul = U.length
  le : ul ≤ most
/-- What a put leaves. -/
def BytQ (B : Nat) (U : List Nat) (most : Nat) (w : World) (e : Ending) (w' : World) : Prop :=
  ∃ (vo : Option Addr) (ul vc : Nat), e = .returned (.slice vo ul vc) ∧ Byt B w' vo ul vc U most ∧ Below B w w'
theorem Byt.nil (B : Nat) (w : World) (most : Nat) : Byt B w none 0 0 [] most := ⟨World.ownsRow_nil _ _ _ _, rfl, Nat.zero_le _⟩
theorem Byt.below {B : Nat} {w w' : World} {vo : Option Addr} {ul vc most : Nat} {U : List Nat} (h : Byt B w vo ul vc U most) (hb : Below w.heap.size w w') : Byt B w' vo ul vc U most :=
  ⟨own_same h.own (fun k _ hk => hb.block k hk), h.len, h.le⟩
theorem byt_put {B : Nat} {vo : Option Addr} {ul vc most n f : Nat} {U : List Nat} {w : World} (h : Byt B w vo ul vc U most) (hf : ∀ (T : List Nat), w.ownsRow B 5 1 (.slice vo T.length vc) T.length (u8n T) → T.length ≤ 1000000 → Calls Tryd.prog f #[.slice vo T.length vc, .int .i64 (n : Int)] w fun e w' => PutQ B (T ++ vn n) w e w') (hm : most ≤ 1000000) (hn : n ≤ 16383) :
    Calls Tryd.prog f #[.slice vo ul vc, .int .i64 (n : Int)] w fun e w' => BytQ B (U ++ vn n) (most + 2) w e w' := by
  obtain ⟨h1, h2, h3⟩ := h
  subst h2
  refine (hf U h1 (by omega)).mono fun e w' ⟨vo', vc', he, ho, hb⟩ => ⟨vo', _, vc', he, ⟨ho, rfl, ?_⟩, hb⟩
  rw [List.length_append]
  have := vn_le hn
  omega
theorem putB_any {B : Nat} {vo : Option Addr} {ul vc most n : Nat} {U : List Nat} {w : World} (h : Byt B w vo ul vc U most) (hB : B ≤ w.heap.size) (hm : most ≤ 1000000) (hn : n ≤ 16383) :
    Calls Tryd.prog 80 #[.slice vo ul vc, .int .i64 (n : Int)] w fun e w' => BytQ B (U ++ vn n) (most + 2) w e w' := byt_put h (fun T ho hT => putN_any B vo vc T n w ho hB hT hn) hm hn
theorem rputB_any {B : Nat} {vo : Option Addr} {ul vc most n : Nat} {U : List Nat} {w : World} (h : Byt B w vo ul vc U most) (hB : B ≤ w.heap.size) (hm : most ≤ 1000000) (hn : n ≤ 16383) :
    Calls Tryd.prog 81 #[.slice vo ul vc, .int .i64 (n : Int)] w fun e w' => BytQ B (U ++ vn n) (most + 2) w e w' := byt_put h (fun T ho hT => rput_any B vo vc T n w ho hB hT hn) hm hn
/-- What Put leaves: of an automaton its bytes, else an error. -/
def PdQ (w : World) (c : Int) (R : Rw) (T : List Int) (e : Ending) (w' : World) : Prop :=
  (Gd c R T ∧ ∃ (vo : Option Addr) (ul vc : Nat), e = .returned (.tuple #[.slice vo ul vc, .int .i64 0]) ∧ Byt w.heap.size w' vo ul vc (encD c R T) 140000 ∧ Below w.heap.size w w') ∨
  (¬ Gd c R T ∧ e = .returned (.tuple #[.slice none 0 0, .int .i64 70]) ∧ Below w.heap.size w w')
theorem encD_at {c : Int} {R : Rw} {T : List Int} {k : Nat} (hk : k = R.length) : encL (itK c R T k) = encD c R T := by unfold encD; rw [hk]
theorem enc_row {c : Int} {R : Rw} {T : List Int} {k j : Nat} {row : List Int} {t : Int} (hr : R[k]? = some row) (ht : T[k]? = some t) (hj : j = row.length) : encL (itK c R T k ++ itR t (row.take j)) = encL (itK c R T (k + 1)) := by
  rw [itK_succ hr ht, hj, List.take_length]
theorem enc_one {c : Int} {R : Rw} {T : List Int} {k tn : Nat} {t : Int} (row : List Int) (h : t = (tn : Int)) : encL (itK c R T k) ++ vn tn = encL (itK c R T k ++ itR t (row.take 0)) := by
  rw [show itR t (row.take 0) = [tn] by unfold itR; simp [h], encL_snoc]
theorem enc_next {c : Int} {R : Rw} {T : List Int} {k j zn : Nat} {row : List Int} {t z : Int} (hz : row[j]? = some z) (h : z + 1 = (zn : Int)) : encL (itK c R T k ++ itR t (row.take j)) ++ vn zn = encL (itK c R T k ++ itR t (row.take (j + 1))) := by
  rw [itR_snoc t row hz, ← List.append_assoc, encL_snoc, show (z + 1).toNat = zn by omega]
theorem enc_begin {c : Int} {R : Rw} {T : List Int} {cn n : Nat} (hc : c = (cn : Int)) (hn : n = R.length) : [] ++ vn cn ++ vn n = encL (itK c R T 0) := by
  rw [itK_zero, encL_cons, encL_cons, encL_nil, hc, hn]; simp
end Go.Proofs.YtkmcbhdjecpmjaaDoor
