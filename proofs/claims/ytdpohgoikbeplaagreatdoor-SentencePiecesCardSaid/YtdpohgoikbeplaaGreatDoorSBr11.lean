/- Br11: parts of the proof, joined. -/
import Derived.Test.YtdpohgoikbeplaaGreatDoorSDcNm
import Derived.Test.YtdpohgoikbeplaaGreatDoorSBase
namespace Go.Proofs.YtdpohgoikbeplaaGreatDoor.Br
open Go.RowKit
def BrAt (U : List (List UInt8)) (A : List Dc.Tr) (rs : List Pt.Rl) (rest : Bool) (X : Nat) (w : World) : Prop :=
 ∃ Q ro rc, w.heap[X]? = some (.cells #[.pointer (some ⟨Q, 0, none⟩), .slice ro rs.length rc, .bool rest] 48 (0, 0)) /\ Dc.Bk U A Q w /\ Pt.RdRl w ro rs
set_option maxHeartbeats 2000000 in
set_option maxRecDepth 100000 in
theorem of_any (P R : ByteArray) (U : List (List UInt8)) (A : List Dc.Tr) (rs : List Pt.Rl) (rest : Bool) (h0 : 0 < U.length) (h9 : U.length <= 1000)
  (hnew : ∀ w, Calls Tryz.prog 99 #[.string P] w fun e w' => Below w.heap.size w w' /\ ∃ Q, e = .returned (.tuple #[.pointer (some ⟨Q, 0, none⟩), .int .i64 0, .int .i64 0]) /\ Dc.Bk U A Q w')
  (hparse : ∀ g nc w, Pt.NmAt w g nc (Dc.strs U) -> Calls Tryz.prog 100 #[.string R, .slice (some ⟨g, 0, none⟩) U.length nc] w (Pt.PrQ g w rs rest)) (w : World) :
  Calls Tryz.prog 54 #[.string P, .string R] w fun e w' => Below w.heap.size w w' /\ ∃ X, e = .returned (.pointer (some ⟨X, 0, none⟩)) /\ BrAt U A rs rest X w' := by
 have HW := hid hnew
 have HP := hid hparse
 have HU := hid (And.intro h0 h9)
 clear hnew hparse h0 h9
 go_enter Tryz.func54, Tryz.ntmps54
 go_wp2_with fail
 refine (HW.out w).mono ?_
 rintro e w1 ⟨hb, Q, rfl, hk⟩
 have HB1 := hid hb
 have HK := hid hk
 have HN := hid (Dc.dnames_any U A Q w1 hk HU.out.1 HU.out.2)
 obtain ⟨N, hN⟩ : ∃ N, N = U.length := ⟨_, rfl⟩
 rw [<- hN] at HN HP
 clear hb hk HW hN
 go_wp2_with fail
 refine HN.out.mono ?_
 rintro e w2 ⟨g, nc, rfl, hn, hg, hb2⟩
 have HPg := hid (HP.out g nc w2 hn)
 have HG := hid hg
 have HB2 := hid hb2
 clear hn hg hb2 HN HP
 go_wp2_with fail
 refine HPg.out.mono ?_
 rintro e w3 ⟨ro, rc, rfl, hr, ho⟩
 have HB3 := hid (HB2.out.trans (ho.below HB2.out.size HG.out))
 have HR := hid hr
 clear hr ho HPg
 obtain ⟨n, hn⟩ : ∃ n, n = rs.length := ⟨_, rfl⟩
 rw [<- hn]
 have HNn := hid hn
 clear hn
 go_wp2
 go_ret
 refine ⟨HB1.out.trans ((HB3.out.mono HB1.out.size).trans (((Below.refl _ _).alloc (Nat.le_refl _) _ |>.alloc (by simp) _).mono (Nat.le_trans HB1.out.size HB3.out.size))), _, rfl, Q, ro, rc, ?_, (HK.out.below HB3.out).below ((Below.refl _ _).alloc (Nat.le_refl _) _ |>.alloc (by simp) _), HR.out.below ((Below.refl _ _).alloc (Nat.le_refl _) _ |>.alloc (by simp) _)⟩
 rw [<- HNn.out]
 have e := World.alloc_heap_new (w3.alloc (.cells #[.slice ro n rc, .bool rest] 46)) (.cells #[.pointer (some ⟨Q, 0, none⟩), .slice ro n rc, .bool rest] 48)
 rw [World.size_alloc] at e
 exact e
end Go.Proofs.YtdpohgoikbeplaaGreatDoor.Br
