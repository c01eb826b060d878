/- DbBk: parts of the proof, joined. -/
import Derived.Test.YtdpohgoikbeplaaGreatDoorSDcE
import Derived.Test.YtdpohgoikbeplaaGreatDoorSMix
namespace Go.Proofs.YtdpohgoikbeplaaGreatDoor.Dc
open Go.RowKit
def Bk (U : List (List UInt8)) (A : List Tr) (Q : Nat) (w : World) : Prop := ∃ B nv sv vs, DocAt B Q U (dst U.length A) nv sv vs w
theorem Bk.below {U : List (List UInt8)} {A : List Tr} {Q : Nat} {w w' : World} (h : Bk U A Q w) (hb : Below w.heap.size w w') : Bk U A Q w' := by
 obtain ⟨B, nv, sv, vs, h⟩ := h
 exact ⟨B, nv, sv, vs, h.below hb⟩
theorem Bk.names {U : List (List UInt8)} {A : List Tr} {Q : Nat} {w : World} (h : Bk U A Q w) (k : Nat) (b : List UInt8) (hk : U[k]? = some b) : ∃ a ac, w.cell? ⟨Q, 0, none⟩ = some (.slice (some a) U.length ac) /\ w.cell? (a.add k) = some (.string ⟨b.toArray⟩) := by
 obtain ⟨B, nv, sv, vs, h⟩ := h
 obtain ⟨ao, ac, rfl, hr⟩ := rdn_own h.hN rfl
 obtain ⟨a, rfl, _, h2⟩ := hr k b hk
 exact ⟨a, ac, h.c0, h2⟩
theorem rnew_eq (s : ByteArray) (t : List UInt8) (w : World) (hs : s = ⟨t.toArray⟩) (ht : t.length <= 12000 \/ 65536 < t.length) (U : List (List UInt8)) (S : List Tr) (W : List Tr) (hn : nw t = ((0, 0), U, S)) (hw : whl S = W) :
  Calls Tryz.prog 99 #[.string s] w fun e w' => Below w.heap.size w w' /\ ∃ Q, e = .returned (.tuple #[.pointer (some ⟨Q, 0, none⟩), .int .i64 0, .int .i64 0]) /\ Bk U W Q w' := by
 subst hs
 refine (rnew_any t w ht).mono ?_
 rintro e w' ⟨hb, h⟩
 rw [hn, hw] at h
 refine ⟨hb, ?_⟩
 rcases h with ⟨h1, _⟩ | ⟨_, Q, nv, sv, vs, h1, h2⟩
 ·exact absurd rfl h1
 ·exact ⟨Q, h1, _, nv, sv, vs, h2⟩
end Go.Proofs.YtdpohgoikbeplaaGreatDoor.Dc
