/- The contract of Get (package props). -/
import Derived.Test.YtohhokjlgihbgaaGreatDoorGd
import Derived.Test.YtohhokjlgihbgaaGreatDoorGc
import Derived.Ground.NamesProg
import Derived.Shelf.Strings.SplitShaped
import Derived.Shelf.Strings.SlTrimAscii
import Derived.Test.YtohhokjlgihbgaaGreatDoorProg
import Derived.Test.YtohhokjlgihbgaaGreatDoorGa
import Derived.Lib.Strings
import Derived.Lib.Walk
import Derived.Lib.AtoiErrMem
import Derived.Lib.ConvBytes
import Derived.Laws.Strings3
import Derived.Laws.Closers25
import Derived.Laws.Closers25b
import Derived.BigCall
import Derived.BigGuard
namespace Go.Proofs.YtohhokjlgihbgaaGreatDoor
open Go.RowKit

/-- The class of a number: that of the first range that does not end ahead of it. -/
def gtp (r : Int) : List Tr → Nat
  | [] => 0
  | g :: R => if (g.2.1 : Int) < r then gtp r R else g.2.2
/-- How many ranges end ahead of it. -/
def ahd (r : Int) : List Tr → Nat
  | [] => 0
  | g :: R => if (g.2.1 : Int) < r then ahd r R + 1 else 0
theorem ahd_le (r : Int) : ∀ A : List Tr, ahd r A ≤ A.length
  | [] => Nat.le_refl _
  | g :: R => by
    have ih := ahd_le r R
    show (if _ then _ else _) ≤ _
    split
    · simp; omega
    · simp
theorem ahd_lo (r : Int) : ∀ (A : List Tr) (k : Nat) (x : Tr), k < ahd r A → A[k]? = some x → (x.2.1 : Int) < r
  | [], _, _, h, _ => by simp [ahd] at h
  | g :: R, k, x, h, hx => by
    unfold ahd at h
    split at h
    · rename_i hg
      cases k with
      | zero => simp at hx; subst hx; exact hg
      | succ k => exact ahd_lo r R k x (by omega) (by simpa using hx)
    · omega
theorem ahd_hi (r : Int) : ∀ (A : List Tr) (_ : A.Pairwise fun x y => x.2.1 < y.2.1) (k : Nat) (x : Tr), ahd r A ≤ k → A[k]? = some x → ¬ (x.2.1 : Int) < r
  | [], _, k, x, _, hx => by simp at hx
  | g :: R, hp, k, x, h, hx => by
    obtain ⟨h1, h2⟩ := List.pairwise_cons.1 hp
    unfold ahd at h
    split at h
    · rename_i hg
      cases k with
      | zero => omega
      | succ k => exact ahd_hi r R h2 k x (by omega) (by simpa using hx)
    · rename_i hg
      cases k with
      | zero => simp at hx; subst hx; exact hg
      | succ k =>
        have h5 := h1 x (List.mem_of_getElem? (by simpa using hx : R[k]? = some x))
        omega
theorem gtp_at (r : Int) : ∀ (A : List Tr), (∃ g ∈ A, ¬ (g.2.1 : Int) < r) → ∃ x, A[ahd r A]? = some x ∧ gtp r A = x.2.2
  | [], h => by obtain ⟨g, hg, _⟩ := h; cases hg
  | g :: R, h => by
    by_cases hg : (g.2.1 : Int) < r
    · have hR : ∃ y ∈ R, ¬ (y.2.1 : Int) < r := by
        obtain ⟨y, hy, h5⟩ := h
        rcases List.mem_cons.1 hy with rfl | hy
        · exact absurd hg h5
        · exact ⟨y, hy, h5⟩
      obtain ⟨x, h1, h2⟩ := gtp_at r R hR
      refine ⟨x, ?_, ?_⟩
      · rw [show ahd r (g :: R) = ahd r R + 1 by show (if _ then _ else _) = _; rw [if_pos hg]]
        simpa using h1
      · show (if _ then _ else _) = _
        rw [if_pos hg, h2]
    · refine ⟨g, ?_, ?_⟩
      · rw [show ahd r (g :: R) = 0 by show (if _ then _ else _) = _; rw [if_neg hg]]
        rfl
      · show (if _ then _ else _) = _
        rw [if_neg hg]
/-- A rune that is none stands for the one instead. -/
def instd (r : Int) : Int := if r < 0 ∨ 1114111 < r then 65533 else r
set_option maxHeartbeats 1000000 in
set_option maxRecDepth 100000 in
theorem get_any (B P K : Nat) (U : List (List UInt8)) (nv : Value) (po : Option Addr) (pc : Nat) (A : List Tr) (r : Int) (w : World) (h : DbAt B P K U nv (.slice po A.length pc) w) (ha : RdK w po (A.map rkT)) (hl : A.length ≤ 10000000) (hp : A.Pairwise fun x y => x.2.1 < y.2.1) (he : ∃ g ∈ A, g.2.1 = 1114111) :
    Calls Tryz.prog 24 #[.pointer (some ⟨P, 0, none⟩), .int .i32 r] w fun e w' => e = .returned (.int .i64 (gtp (instd r) A : Nat)) ∧ Below w.heap.size w w' := by
  have c2 := h.c2
  have hin : instd r ≤ 1114111 := by unfold instd; split <;> omega
  obtain ⟨x, hx, hg⟩ := gtp_at (instd r) A (by obtain ⟨g, h5, h6⟩ := he; exact ⟨g, h5, by omega⟩)
  have HS := hid (search_get po pc A (instd r) (ahd (instd r) A) w ha (by omega) (ahd_le _ A) (ahd_lo (instd r) A) (ahd_hi (instd r) A hp))
  have hPl := lt_of_heap h.hP
  have HPB := hid (show ∀ W, Below w.heap.size w W → W.cell? ⟨P, 2, none⟩ = some (.slice po A.length pc) from fun W hW => (hW.cell (p := ⟨P, 2, none⟩) hPl).trans c2)
  have hsl := (List.getElem?_eq_some_iff.1 hx).1
  have HAB := hid (show ∀ W, Below w.heap.size w W → ∃ a : Addr, po = some a ∧ W.cell? ⟨(a.add (ahd (instd r) A * 3)).block, (a.add (ahd (instd r) A * 3)).off + 2, none⟩ = some (.int .i64 (x.2.2 : Int)) from fun W hW => by
    obtain ⟨a, e1, _, _, _, e4⟩ := (ha.below hW) (ahd (instd r) A) (rkT x) (by rw [List.getElem?_map, hx]; rfl)
    exact ⟨a, e1, e4⟩)
  rw [hg]
  obtain ⟨s, hse⟩ : ∃ s, s = ahd (instd r) A := ⟨_, rfl⟩
  obtain ⟨n, hn⟩ : ∃ n, n = A.length := ⟨_, rfl⟩
  rw [← hse] at HS HAB hsl
  rw [← hn] at HS HPB c2 hsl hl
  have s1 : (s : Int) < (n : Int) := by omega
  have s0 : (0 : Int) ≤ (s : Int) := by omega
  clear h ha hp he hx hg hse hn hin
  by_cases h0 : r < 0
  · have hi : instd r = 65533 := by unfold instd; rw [if_pos (.inl h0)]
    rw [hi] at HS
    clear hi
    go_enter Tryz.func24, Tryz.ntmps24
    go_wp2_with fail
    refine HS.out.mono ?_
    rintro e w1 ⟨⟨d, rfl⟩, b1⟩
    have HB1 := hid b1
    obtain ⟨a, rfl, a2⟩ := HAB.out w1 b1
    have c3 := HPB.out w1 b1
    clear b1 HS c2
    go_wp2
    go_ret
    exact ⟨rfl, HB1.out⟩
  by_cases h1 : 1114111 < r
  · have hi : instd r = 65533 := by unfold instd; rw [if_pos (.inr h1)]
    rw [hi] at HS
    clear hi
    go_enter Tryz.func24, Tryz.ntmps24
    go_wp2_with fail
    refine HS.out.mono ?_
    rintro e w1 ⟨⟨d, rfl⟩, b1⟩
    have HB1 := hid b1
    obtain ⟨a, rfl, a2⟩ := HAB.out w1 b1
    have c3 := HPB.out w1 b1
    clear b1 HS c2
    go_wp2
    go_ret
    exact ⟨rfl, HB1.out⟩
  · have hi : instd r = r := by unfold instd; rw [if_neg (by omega)]
    rw [hi] at HS
    clear hi
    go_enter Tryz.func24, Tryz.ntmps24
    go_wp2_with fail
    refine HS.out.mono ?_
    rintro e w1 ⟨⟨d, rfl⟩, b1⟩
    have HB1 := hid b1
    obtain ⟨a, rfl, a2⟩ := HAB.out w1 b1
    have c3 := HPB.out w1 b1
    clear b1 HS c2
    go_wp2
    go_ret
    exact ⟨rfl, HB1.out⟩
end Go.Proofs.YtohhokjlgihbgaaGreatDoor
/- What say does to the ranges said so far: a range laid among them, joined with those that it meets; none, if one of these has another class. -/
namespace Go.Proofs.YtohhokjlgihbgaaGreatDoor

/-- From the first range on that does not end ahead of it. -/
def sayD : List Tr → Tr → Option (Tr × List Tr)
  | [], g => some (g, [])
  | h :: R, g => if h.1 ≤ g.2.1 then (if h.2.2 = g.2.2 then sayD R (min g.1 h.1, max g.2.1 h.2.1, g.2.2) else none) else some (g, h :: R)
def sayR : List Tr → Tr → Option (List Tr)
  | [], g => some [g]
  | h :: R, g => if (h.2.1 : Int) < (g.1 : Int) then (sayR R g).map (h :: ·) else (sayD (h :: R) g).map fun x => x.1 :: x.2
theorem sayR_at : ∀ (S : List Tr) (g : Tr), sayR S g = (sayD (S.drop (ahd (g.1 : Int) S)) g).map fun x => S.take (ahd (g.1 : Int) S) ++ x.1 :: x.2
  | [], g => rfl
  | h :: R, g => by
    have ih := sayR_at R g
    unfold sayR
    by_cases hc : (h.2.1 : Int) < (g.1 : Int)
    · rw [if_pos hc, ih, show ahd (g.1 : Int) (h :: R) = ahd (g.1 : Int) R + 1 by show (if _ then _ else _) = _; rw [if_pos hc]]
      rw [List.drop_succ_cons, List.take_succ_cons]
      cases sayD (R.drop (ahd (g.1 : Int) R)) g with
      | none => rfl
      | some x => rfl
    · rw [if_neg hc, show ahd (g.1 : Int) (h :: R) = 0 by show (if _ then _ else _) = _; rw [if_neg hc]]
      rfl
theorem rs_mono : ∀ (L : List Tr) (a b : Nat), a ≤ b → Rs b L → Rs a L
  | [], _, _, _, _ => trivial
  | _ :: _, _, _, hab, h => ⟨Nat.le_trans hab h.1, h.2⟩
theorem sayD_rs : ∀ (D : List Tr) (g : Tr) (b : Nat) (x : Tr) (R : List Tr), Rs b D → b ≤ g.1 → g.1 ≤ g.2.1 → g.2.1 ≤ 1114111 → sayD D g = some (x, R) → b ≤ x.1 ∧ x.1 ≤ x.2.1 ∧ x.2.1 ≤ 1114111 ∧ Rs (x.2.1 + 1) R
  | [], g, b, x, R, _, h1, h2, h3, he => by
    simp only [sayD, Option.some.injEq, Prod.mk.injEq] at he
    obtain ⟨rfl, rfl⟩ := he
    exact ⟨h1, h2, h3, trivial⟩
  | h :: D, g, b, x, R, hR, h1, h2, h3, he => by
    obtain ⟨r1, r2, r3, r4⟩ := hR
    unfold sayD at he
    split at he
    · split at he
      · exact sayD_rs D (min g.1 h.1, max g.2.1 h.2.1, g.2.2) b x R (rs_mono D b (h.2.1 + 1) (by omega) r4) (by show b ≤ min g.1 h.1; omega) (by show min g.1 h.1 ≤ max g.2.1 h.2.1; omega) (by show max g.2.1 h.2.1 ≤ 1114111; omega) he
      · cases he
    · rename_i hc
      simp only [Option.some.injEq, Prod.mk.injEq] at he
      obtain ⟨rfl, rfl⟩ := he
      exact ⟨h1, h2, h3, by omega, r2, r3, r4⟩
theorem sayR_rs : ∀ (S : List Tr) (g : Tr) (b : Nat) (S' : List Tr), Rs b S → b ≤ g.1 → g.1 ≤ g.2.1 → g.2.1 ≤ 1114111 → sayR S g = some S' → Rs b S'
  | [], g, b, S', _, h1, h2, h3, he => by
    simp only [sayR, Option.some.injEq] at he
    subst he
    exact ⟨h1, h2, h3, trivial⟩
  | h :: S, g, b, S', hR, h1, h2, h3, he => by
    obtain ⟨r1, r2, r3, r4⟩ := hR
    unfold sayR at he
    split at he
    · rename_i hc
      cases hs : sayR S g with
      | none => rw [hs] at he; cases he
      | some T =>
        rw [hs] at he
        simp only [Option.map_some, Option.some.injEq] at he
        subst he
        exact ⟨r1, r2, r3, sayR_rs S g (h.2.1 + 1) T r4 (by omega) h2 h3 hs⟩
    · cases hs : sayD (h :: S) g with
      | none => rw [hs] at he; cases he
      | some x =>
        rw [hs] at he
        simp only [Option.map_some, Option.some.injEq] at he
        subst he
        obtain ⟨p1, p2, p3, p4⟩ := sayD_rs (h :: S) g b x.1 x.2 ⟨r1, r2, r3, r4⟩ h1 h2 h3 hs
        exact ⟨p1, p2, p3, p4⟩
end Go.Proofs.YtohhokjlgihbgaaGreatDoor
/- Contracts of library functions, laid at this program. -/
namespace Go.Proofs
open Go.Shelf
def Tryz.laysM155_ren : Go.Shelf.Ren := ⟨fun | 155 => 68 | 154 => 98 | 138 => 118 | 165 => 119 | 143 => 88 | 166 => 53 | 197 => 87 | 169 => 56 | 195 => 79 | 218 => 142 | 240 => 82 | 241 => 143 | 219 => 112 | 260 => 111 | 276 => 106 | 277 => 164 | 217 => 134 | 225 => 135 | 224 => 136 | 267 => 137 | 266 => 158 | 314 => 159 | n => n, fun | 9 => 9 | 3 => 3 | 4 => 4 | 72 => 96 | 0 => 0 | 76 => 99 | 105 => 134 | 21 => 21 | 5 => 5 | 70 => 93 | 20 => 20 | 37 => 94 | 75 => 98 | 127 => 131 | 164 => 153 | 46 => 128 | 119 => 173 | 139 => 176 | 138 => 175 | 146 => 192 | 51 => 191 | 80 => 53 | n => n, fun | 1 => 2 | 3 => 0 | 4 => 1 | n => n⟩
theorem Tryz.laysM155 : Go.Proofs.LaysM.n155 Tryz.prog Tryz.laysM155_ren := {
  mixed := by kernel_rfl
  f138 := Tryz.func118.trans (congrArg some (by kernel_rfl))
  f143 := Tryz.func88.trans (congrArg some (by kernel_rfl))
  f154 := Tryz.func98.trans (congrArg some (by kernel_rfl))
  f155 := Tryz.func68.trans (congrArg some (by kernel_rfl))
  f165 := Tryz.func119.trans (congrArg some (by kernel_rfl))
  f166 := Tryz.func53.trans (congrArg some (by kernel_rfl))
  f169 := Tryz.func56.trans (congrArg some (by kernel_rfl))
  f195 := Tryz.func79.trans (congrArg some (by kernel_rfl))
  f197 := Tryz.func87.trans (congrArg some (by kernel_rfl))
  f217 := Tryz.func134.trans (congrArg some (by kernel_rfl))
  f218 := Tryz.func142.trans (congrArg some (by kernel_rfl))
  f219 := Tryz.func112.trans (congrArg some (by kernel_rfl))
  f224 := Tryz.func136.trans (congrArg some (by kernel_rfl))
  f225 := Tryz.func135.trans (congrArg some (by kernel_rfl))
  f240 := Tryz.func82.trans (congrArg some (by kernel_rfl))
  f241 := Tryz.func143.trans (congrArg some (by kernel_rfl))
  f260 := Tryz.func111.trans (congrArg some (by kernel_rfl))
  f266 := Tryz.func158.trans (congrArg some (by kernel_rfl))
  f267 := Tryz.func137.trans (congrArg some (by kernel_rfl))
  f276 := Tryz.func106.trans (congrArg some (by kernel_rfl))
  f277 := Tryz.func164.trans (congrArg some (by kernel_rfl))
  f314 := Tryz.func159.trans (congrArg some (by kernel_rfl))
  t0 := Tryz.underlying0
  a0 := Tryz.isAgg0
  z0 := Tryz.sizeOf0
  v0 := Tryz.zeroValue0
  t3 := Tryz.underlying3
  a3 := Tryz.isAgg3
  z3 := Tryz.sizeOf3
  v3 := Tryz.zeroValue3
  t4 := Tryz.underlying4
  a4 := Tryz.isAgg4
  z4 := Tryz.sizeOf4
  v4 := Tryz.zeroValue4
  t5 := Tryz.underlying5
  a5 := Tryz.isAgg5
  z5 := Tryz.sizeOf5
  v5 := Tryz.zeroValue5
  t9 := Tryz.underlying9
  a9 := Tryz.isAgg9
  z9 := Tryz.sizeOf9
  v9 := Tryz.zeroValue9
  t20 := Tryz.underlying20
  a20 := Tryz.isAgg20
  z20 := Tryz.sizeOf20
  v20 := Tryz.zeroValue20
  t21 := Tryz.underlying21
  a21 := Tryz.isAgg21
  z21 := Tryz.sizeOf21
  v21 := Tryz.zeroValue21
  t37 := Tryz.underlying94
  a37 := Tryz.isAgg94
  z37 := Tryz.sizeOf94
  v37 := Tryz.zeroValue94
  t46 := Tryz.underlying128
  a46 := Tryz.isAgg128
  z46 := Tryz.sizeOf128
  v46 := Tryz.zeroValue128
  t51 := Tryz.underlying191
  a51 := Tryz.isAgg191
  z51 := Tryz.sizeOf191
  v51 := Tryz.zeroValue191
  t70 := Tryz.underlying93
  a70 := Tryz.isAgg93
  z70 := Tryz.sizeOf93
  v70 := Tryz.zeroValue93
  t72 := Tryz.underlying96
  a72 := Tryz.isAgg96
  z72 := Tryz.sizeOf96
  v72 := Tryz.zeroValue96
  t75 := Tryz.underlying98
  a75 := Tryz.isAgg98
  z75 := Tryz.sizeOf98
  v75 := Tryz.zeroValue98
  t76 := Tryz.underlying99
  a76 := Tryz.isAgg99
  z76 := Tryz.sizeOf99
  v76 := Tryz.zeroValue99
  t105 := Tryz.underlying134
  a105 := Tryz.isAgg134
  z105 := Tryz.sizeOf134
  v105 := Tryz.zeroValue134
  t119 := Tryz.underlying173
  a119 := Tryz.isAgg173
  z119 := Tryz.sizeOf173
  t127 := Tryz.underlying131
  a127 := Tryz.isAgg131
  z127 := Tryz.sizeOf131
  v127 := Tryz.zeroValue131
  t138 := Tryz.underlying175
  a138 := Tryz.isAgg175
  z138 := Tryz.sizeOf175
  v138 := Tryz.zeroValue175
  t139 := Tryz.underlying176
  a139 := Tryz.isAgg176
  z139 := Tryz.sizeOf176
  v139 := Tryz.zeroValue176
  t146 := Tryz.underlying192
  a146 := Tryz.isAgg192
  z146 := Tryz.sizeOf192
  v146 := Tryz.zeroValue192
  t164 := Tryz.underlying153
  a164 := Tryz.isAgg153
  z164 := Tryz.sizeOf153
  v164 := Tryz.zeroValue153
  g1 := by kernel_rfl
  g3 := by kernel_rfl
  g4 := by kernel_rfl
  t80 := Tryz.underlying53
  a80 := Tryz.isAgg53
  z80 := Tryz.sizeOf53
  v80 := Tryz.zeroValue53
  i0 := by kernel_rfl
  i3 := by kernel_rfl
  i4 := by kernel_rfl
  i5 := by kernel_rfl
  i9 := by kernel_rfl
  i20 := by kernel_rfl
  i21 := by kernel_rfl
  i37 := by kernel_rfl
  i46 := by kernel_rfl
  i51 := by kernel_rfl
  i70 := by kernel_rfl
  i72 := by kernel_rfl
  i75 := by kernel_rfl
  i76 := by kernel_rfl
  i80 := by kernel_rfl
  i105 := by kernel_rfl
  i127 := by kernel_rfl
  i138 := by kernel_rfl
  i139 := by kernel_rfl
  i146 := by kernel_rfl
  i164 := by kernel_rfl
  m1 := by kernel_rfl
  s1_3 := fun w h => Go.Proofs.cell_of_shapedOpen_int (zero := #[.int .i64 0]) (t := 3) h (of_decide_eq_true (by kernel_rfl)) (by kernel_rfl) rfl (by kernel_rfl) (by kernel_rfl) Tryz.underlying3
  m3 := by kernel_rfl
  m4 := by kernel_rfl }
def Tryz.lays160_ren : Go.Shelf.Ren := ⟨fun | 160 => 65 | 232 => 90 | 231 => 89 | 227 => 91 | 234 => 93 | 233 => 92 | 236 => 95 | 235 => 94 | 228 => 113 | 271 => 115 | 151 => 114 | 197 => 87 | 120 => 139 | 152 => 138 | 260 => 111 | 137 => 160 | 119 => 161 | 224 => 136 | 225 => 135 | 217 => 134 | 266 => 158 | n => n, fun | 9 => 9 | 4 => 4 | 3 => 3 | 5 => 5 | 117 => 140 | 116 => 139 | 0 => 0 | 124 => 143 | 21 => 21 | 105 => 134 | 46 => 128 | 119 => 173 | 139 => 176 | 138 => 175 | n => n, fun | 3 => 0 | 4 => 1 | n => n⟩
theorem Tryz.lays160 : Go.Proofs.Lays.n160 Tryz.prog Tryz.lays160_ren := {
  mixed := by kernel_rfl
  f119 := Tryz.func161.trans (congrArg some (by kernel_rfl))
  f120 := Tryz.func139.trans (congrArg some (by kernel_rfl))
  f137 := Tryz.func160.trans (congrArg some (by kernel_rfl))
  f151 := Tryz.func114.trans (congrArg some (by kernel_rfl))
  f152 := Tryz.func138.trans (congrArg some (by kernel_rfl))
  f160 := Tryz.func65.trans (congrArg some (by kernel_rfl))
  f197 := Tryz.func87.trans (congrArg some (by kernel_rfl))
  f217 := Tryz.func134.trans (congrArg some (by kernel_rfl))
  f224 := Tryz.func136.trans (congrArg some (by kernel_rfl))
  f225 := Tryz.func135.trans (congrArg some (by kernel_rfl))
  f227 := Tryz.func91.trans (congrArg some (by kernel_rfl))
  f228 := Tryz.func113.trans (congrArg some (by kernel_rfl))
  f231 := Tryz.func89.trans (congrArg some (by kernel_rfl))
  f232 := Tryz.func90.trans (congrArg some (by kernel_rfl))
  f233 := Tryz.func92.trans (congrArg some (by kernel_rfl))
  f234 := Tryz.func93.trans (congrArg some (by kernel_rfl))
  f235 := Tryz.func94.trans (congrArg some (by kernel_rfl))
  f236 := Tryz.func95.trans (congrArg some (by kernel_rfl))
  f260 := Tryz.func111.trans (congrArg some (by kernel_rfl))
  f266 := Tryz.func158.trans (congrArg some (by kernel_rfl))
  f271 := Tryz.func115.trans (congrArg some (by kernel_rfl))
  t0 := Tryz.underlying0
  a0 := Tryz.isAgg0
  z0 := Tryz.sizeOf0
  v0 := Tryz.zeroValue0
  t3 := Tryz.underlying3
  a3 := Tryz.isAgg3
  z3 := Tryz.sizeOf3
  v3 := Tryz.zeroValue3
  t4 := Tryz.underlying4
  a4 := Tryz.isAgg4
  z4 := Tryz.sizeOf4
  v4 := Tryz.zeroValue4
  t5 := Tryz.underlying5
  a5 := Tryz.isAgg5
  z5 := Tryz.sizeOf5
  v5 := Tryz.zeroValue5
  t9 := Tryz.underlying9
  a9 := Tryz.isAgg9
  z9 := Tryz.sizeOf9
  v9 := Tryz.zeroValue9
  t21 := Tryz.underlying21
  a21 := Tryz.isAgg21
  z21 := Tryz.sizeOf21
  v21 := Tryz.zeroValue21
  t46 := Tryz.underlying128
  a46 := Tryz.isAgg128
  z46 := Tryz.sizeOf128
  v46 := Tryz.zeroValue128
  t105 := Tryz.underlying134
  a105 := Tryz.isAgg134
  z105 := Tryz.sizeOf134
  v105 := Tryz.zeroValue134
  t116 := Tryz.underlying139
  a116 := Tryz.isAgg139
  z116 := Tryz.sizeOf139
  t117 := Tryz.underlying140
  a117 := Tryz.isAgg140
  z117 := Tryz.sizeOf140
  v117 := Tryz.zeroValue140
  t119 := Tryz.underlying173
  a119 := Tryz.isAgg173
  z119 := Tryz.sizeOf173
  t124 := Tryz.underlying143
  a124 := Tryz.isAgg143
  z124 := Tryz.sizeOf143
  v124 := Tryz.zeroValue143
  t138 := Tryz.underlying175
  a138 := Tryz.isAgg175
  z138 := Tryz.sizeOf175
  v138 := Tryz.zeroValue175
  t139 := Tryz.underlying176
  a139 := Tryz.isAgg176
  z139 := Tryz.sizeOf176
  v139 := Tryz.zeroValue176
  g3 := by kernel_rfl
  g4 := by kernel_rfl }
end Go.Proofs
/- The contracts of strings.Trim at blanks and of strings.ReplaceAll of tabs. -/
namespace Go.Proofs.YtohhokjlgihbgaaGreatDoor
open Go.RowKit Go.Shelf

theorem trim4_any (l : List UInt8) (w : World) (hl : l.length ≤ 9223372036854775807) :
    Calls Tryz.prog 65 #[.string ⟨l.toArray⟩, .string ⟨#[32, 9]⟩] w fun e w' => e = .returned (.string ⟨(Lib.trimS l [32, 9]).toArray⟩) ∧ Below w.heap.size w w' :=
  Any.strings_Trim_laid Tryz.lays160 (by kernel_rfl) ⟨l.toArray⟩ ⟨#[32, 9]⟩ w (by show l.toArray.size ≤ _; simpa using hl) (by decide) (ascii_of_all (by decide))
theorem extra155 : Builder.Extra Tryz.prog Tryz.laysM155_ren where
  sizeBuilder := by kernel_rfl
  liesBuilder := by kernel_rfl
  t5 := Tryz.laysM155.t5
  a5 := Tryz.laysM155.a5
  z5 := Tryz.laysM155.z5
  v5 := Tryz.laysM155.v5
  infoByte := by kernel_rfl
  cellsByte := by kernel_rfl
  sizeByte := by kernel_rfl
  neB5 := by decide
/-- A tab becomes a blank. -/
def tbl (b : UInt8) : UInt8 := if b = 9 then 32 else b
theorem index_at (c : UInt8) : ∀ (P R : List UInt8), c ∉ P → Lib.indexByte (P ++ c :: R) c = (P.length : Int)
  | [], R, _ => by
    show Lib.indexByte (c :: R) c = 0
    unfold Lib.indexByte
    simp
  | p :: P, R, h => by
    have h1 : ¬ p = c := fun e => h (by simp [e])
    have ih := index_at c P R (fun hm => h (by simp [hm]))
    show Lib.indexByte (p :: (P ++ c :: R)) c = _
    unfold Lib.indexByte
    rw [ih]
    simp [h1]
theorem map_tbl (P : List UInt8) (h : (9 : UInt8) ∉ P) : P.map tbl = P := by
  induction P with
  | nil => rfl
  | cons p P ih =>
    have h1 : ¬ p = 9 := fun e => h (by simp [e])
    rw [List.map_cons, ih (fun hm => h (by simp [hm]))]
    unfold tbl
    rw [if_neg h1]
theorem rep_K : ∀ (k : Nat) (l : List UInt8), l.count 9 = k → Lib.replaceK [9] [32] k l = l.map tbl
  | 0, l, h => by
    show l = _
    rw [map_tbl l (List.count_eq_zero.1 h)]
  | k + 1, l, h => by
    have hm : (9 : UInt8) ∈ l := List.count_pos_iff.1 (by omega)
    obtain ⟨P, R, rfl, hP⟩ := List.eq_append_cons_of_mem hm
    have hi : Lib.index (P ++ 9 :: R) [9] = (P.length : Int) := by rw [Lib.index_one, index_at 9 P R hP]
    have hc : R.count 9 = k := by
      rw [List.count_append, List.count_cons_self, List.count_eq_zero.2 hP] at h
      omega
    have ih := rep_K k R hc
    rw [Lib.replaceK_hit [9] [32] k (P ++ 9 :: R) P.length hi]
    have e1 : (P ++ 9 :: R).take P.length = P := by simp
    have e2 : (P ++ 9 :: R).drop (P.length + [(9 : UInt8)].length) = R := by simp
    rw [e1, e2, ih, List.map_append, List.map_cons, map_tbl P hP]
    show P ++ [32] ++ R.map tbl = P ++ tbl 9 :: R.map tbl
    simp [tbl]
theorem rep_map (l : List UInt8) : Lib.replaceAll l [9] [32] = l.map tbl := by
  unfold Lib.replaceAll Lib.replace
  rw [if_neg (by decide)]
  unfold Lib.replaceNum
  rw [if_pos (.inl (by decide)), Lib.count_one]
  exact rep_K _ l rfl
theorem repl_any (l : List UInt8) (m : Int) (w : World) (hl : l.length ≤ 100000) (hm : w.cell? ⟨2, 0, none⟩ = some (.int .i64 m)) :
    Calls Tryz.prog 68 #[.string ⟨l.toArray⟩, .string ⟨#[9]⟩, .string ⟨#[32]⟩] w fun e w' => e = .returned (.string ⟨(l.map tbl).toArray⟩) ∧ Below w.heap.size w w' := by
  have hs : (⟨l.toArray⟩ : ByteArray).size = l.length := by show l.toArray.size = _; simp
  have hc := Lib.countB_le ⟨#[9]⟩ (by decide) _ (⟨l.toArray⟩ : ByteArray) (Nat.le_refl _)
  have h5 := Any.strings_ReplaceAll { Tryz.laysM155 with } extra155 ⟨l.toArray⟩ ⟨#[9]⟩ ⟨#[32]⟩ m w (by rw [hs]; omega) hm (by decide) (by rw [hs] at hc ⊢; have e : (⟨#[32]⟩ : ByteArray).size = 1 := rfl; rw [e]; omega)
  rw [← rep_map]
  exact h5
end Go.Proofs.YtohhokjlgihbgaaGreatDoor
/- The spelling of a set, the mathematics: digits, and how many of them stand at a place. -/
namespace Go.Proofs.YtohhokjlgihbgaaGreatDoor

def isHx (c : UInt8) : Bool := (decide (48 ≤ c.toNat) && decide (c.toNat ≤ 57)) || (decide (65 ≤ c.toNat) && decide (c.toNat ≤ 70))
theorem isHx_iff (c : UInt8) : isHx c = true ↔ (48 ≤ c.toNat ∧ c.toNat ≤ 57) ∨ (65 ≤ c.toNat ∧ c.toNat ≤ 70) := by
  unfold isHx; simp
def hxV (c : UInt8) : Nat := if c.toNat ≤ 57 then c.toNat - 48 else c.toNat - 55
def hxs : Nat → List UInt8 → Nat
  | a, [] => a
  | a, c :: t => hxs (a * 16 + hxV c) t
theorem hxV_lt {c : UInt8} (h : isHx c = true) : hxV c < 16 := by
  rw [isHx_iff] at h
  unfold hxV
  split <;> omega
theorem hxs_le : ∀ (t : List UInt8) (a : Nat), (∀ c, c ∈ t → isHx c = true) → hxs a t < (a + 1) * 16 ^ t.length
  | [], a, _ => by simp [hxs]
  | c :: t, a, h => by
    have h1 := hxV_lt (h c (by simp))
    have h2 := hxs_le t (a * 16 + hxV c) (fun d hd => h d (by simp [hd]))
    have h3 : (a * 16 + hxV c + 1) * 16 ^ t.length ≤ ((a + 1) * 16) * 16 ^ t.length := Nat.mul_le_mul_right _ (by omega)
    rw [show hxs a (c :: t) = hxs (a * 16 + hxV c) t from rfl, List.length_cons, Nat.pow_succ]
    rw [Nat.mul_comm (16 ^ t.length) 16, ← Nat.mul_assoc]
    omega
theorem hxs_mono : ∀ (t : List UInt8) (a : Nat), a ≤ hxs a t
  | [], a => Nat.le_refl _
  | c :: t, a => by
    have := hxs_mono t (a * 16 + hxV c)
    rw [show hxs a (c :: t) = hxs (a * 16 + hxV c) t from rfl]
    omega

/-- How many digits stand at a place. -/
def hxn (l : List UInt8) (b : Nat) : Nat := ((l.drop b).takeWhile isHx).length
theorem hxn_yes {l : List UInt8} {e : Nat} (he : e < l.length) (h : isHx l[e] = true) : hxn l e = hxn l (e + 1) + 1 := by
  unfold hxn
  rw [List.drop_eq_getElem_cons he, List.takeWhile_cons, if_pos h, List.length_cons]
theorem hxn_no {l : List UInt8} {e : Nat} (he : e < l.length) (h : ¬ isHx l[e] = true) : hxn l e = 0 := by
  unfold hxn
  rw [List.drop_eq_getElem_cons he, List.takeWhile_cons, if_neg h]; rfl
theorem hxn_end {l : List UInt8} {e : Nat} (he : ¬ e < l.length) : hxn l e = 0 := by
  unfold hxn
  rw [List.drop_of_length_le (by omega)]; rfl
theorem hxn_le (l : List UInt8) (b : Nat) : hxn l b ≤ l.length - b := by
  unfold hxn
  have := (List.takeWhile_prefix (l := l.drop b) isHx).length_le
  simpa using this
theorem hxn_take (l : List UInt8) (b : Nat) : (l.drop b).take (hxn l b) = (l.drop b).takeWhile isHx := by
  exact (List.prefix_iff_eq_take.1 (List.takeWhile_prefix (l := l.drop b) isHx)).symm
theorem hxn_all (l : List UInt8) (b : Nat) : ∀ c, c ∈ (l.drop b).take (hxn l b) → isHx c = true := fun c hc => by
  rw [hxn_take] at hc
  exact List.all_eq_true.1 (List.all_takeWhile (p := isHx) (l := l.drop b)) c hc

/-- The number that is spelled at a place by U+ and digits: the rune, the place behind it, no error; or 0, the place and the error. -/
def cdd (l : List UInt8) (at' : Nat) : Int × Nat × Int :=
  if hxn l (at' + 2) < 4 ∨ 6 < hxn l (at' + 2) then (0, at', 21)
  else if 1114111 < hxs 0 ((l.drop (at' + 2)).take (hxn l (at' + 2))) then (0, at', 22)
  else ((hxs 0 ((l.drop (at' + 2)).take (hxn l (at' + 2))) : Nat), at' + 2 + hxn l (at' + 2), 0)
end Go.Proofs.YtohhokjlgihbgaaGreatDoor
/- The contract of strconv.ParseInt at hexadecimal digits, six at most. -/
namespace Go.Proofs.YtohhokjlgihbgaaGreatDoor
open Go.RowKit

theorem lower_any (c : Int) (w : World) : Calls Tryz.prog 202 #[.int .u8 c] w fun e w' => e = .returned (.int .u8 (bits .or .u8 c 32)) ∧ w' = w := by
  go_enter Tryz.func202, Tryz.ntmps202
  go_wp2
  go_ret
  exact ⟨rfl, rfl⟩
theorem lower_AF (c : Nat) (h0 : 65 ≤ c) (h1 : c ≤ 70) : bits .or .u8 (c : Int) 32 = (c : Int) + 32 := by
  obtain rfl | rfl | rfl | rfl | rfl | rfl : c = 65 ∨ c = 66 ∨ c = 67 ∨ c = 68 ∨ c = 69 ∨ c = 70 := by omega
  all_goals decide
theorem lowerAF_any (c : Nat) (h0 : 65 ≤ c) (h1 : c ≤ 70) (w : World) : Calls Tryz.prog 202 #[.int .u8 c] w fun e w' => e = .returned (.int .u8 ((c : Int) + 32)) ∧ w' = w := by
  rw [← lower_AF c h0 h1]; exact lower_any c w

set_option maxHeartbeats 4000000 in
set_option maxRecDepth 100000 in
theorem puint_any (l : List UInt8) (w : World) (hne : l ≠ []) (hl : l.length ≤ 6) (hx : ∀ c, c ∈ l → isHx c = true) :
    Calls Tryz.prog 195 #[.string ⟨l.toArray⟩, .int .i64 16, .int .i64 32] w fun e w' => e = .returned (.tuple #[.int .u64 (hxs 0 l : Nat), .nilIface]) ∧ Below w.heap.size w w' := by
  obtain ⟨t, ht⟩ : ∃ t : ByteArray, t = ⟨l.toArray⟩ := ⟨_, rfl⟩
  have hsz : t.size = l.length := by rw [ht]; show l.toArray.size = _; simp
  have hpos : 0 < l.length := List.length_pos_iff.2 hne
  have hemp : t.toList.isEmpty = false := by
    rw [← decide_eq_emptyBytes]
    exact decide_eq_false (fun h => by rw [h] at hsz; simp at hsz; omega)
  have hcv := Lib.run_convert_string_bytes (P := Tryz.prog) w 9 94 5 t (u := .string) Tryz.underlying9 Tryz.underlying94 Tryz.underlying5
  have HBW := hid (Lib.bytesWorld_below w 5 t)
  have hB : ∀ j, j < t.size → (Lib.bytesWorld w 5 t).cell? ⟨w.heap.size, j, none⟩ = some (.int .u8 (l.getD j 0).toNat) := fun j hj => by
    rw [Lib.bytesWorld_cell w 5 t j hj, ht]
  obtain ⟨W1, hW1⟩ : ∃ W1, W1 = Lib.bytesWorld w 5 t := ⟨_, rfl⟩
  rw [← hW1] at hcv hB HBW
  rw [← ht]
  clear hW1 ht hne
  have HB := hid hB
  have HX := hid hx
  clear hB hx
  have hmv : IntKind.u64.wrap (IntKind.u64.wrap 4294967296 - 1) = 4294967295 := by
    rw [IntKind.wrap_u64, IntKind.wrap_u64]
    decide
  go_enter Tryz.func195, Tryz.ntmps195
  go_wp2
  go_loop [12, 13, 101] (fun vu vn vi => ∃ (k acc : Nat) (a : Int), vu = .bool false ∧ vn = .int .u64 a ∧ vi = .int .i64 k ∧ k ≤ t.size ∧ 0 ≤ a ∧ a ≤ 16777215 ∧ Hid (a = (acc : Int) ∧ hxs 0 l = hxs acc (l.drop k) ∧ acc + 1 ≤ 16 ^ k))
    (fun _ _ vi => t.size - (intOf vi).toNat)
  case atStart => exact ⟨0, 0, 0, rfl, rfl, rfl, by omega, by omega, by omega, rfl, rfl, by decide⟩
  case round =>
    obtain ⟨k, acc, a, rfl, rfl, rfl, hk, a0, a1, hh⟩ := hrel
    by_cases hkn : k < t.size
    · have hkl : k < l.length := by omega
      have hc := HB.out k hkn
      have hget : l.getD k 0 = l[k] := by simp [List.getD, List.getElem?_eq_getElem hkl]
      have hxk := HX.out l[k] (List.getElem_mem hkl)
      have hv := hxV_lt hxk
      have hlt9 : (acc + 1) * 16 ≤ 16777216 := by
        have h1 := hh.out.2.2
        have h2 : 16 ^ k ≤ 16 ^ 5 := Nat.pow_le_pow_right (by omega) (by omega)
        have h3 : (16 : Nat) ^ 5 = 1048576 := by decide
        omega
      have HN := hid (show ∀ a' : Int, a' = a * 16 + (hxV l[k] : Int) → (a' = ((acc * 16 + hxV l[k] : Nat) : Int) ∧ hxs 0 l = hxs (acc * 16 + hxV l[k]) (l.drop (k + 1)) ∧ acc * 16 + hxV l[k] + 1 ≤ 16 ^ (k + 1)) from fun a' ha' => by
        obtain ⟨h1, h2, h3⟩ := hh.out
        refine ⟨by omega, ?_, ?_⟩
        · rw [h2, List.drop_eq_getElem_cons hkl]; rfl
        · rw [Nat.pow_succ]
          omega)
      have ha := hh.out.1
      have ha9 : a * 16 + 15 ≤ 16777215 := by omega
      rw [hget] at hc
      rw [isHx_iff] at hxk
      unfold hxV at HN
      generalize l[k] = c at *
      obtain ⟨m, hm⟩ : ∃ m, m = c.toNat := ⟨_, rfl⟩
      rw [← hm] at hc hxk HN
      clear hm hget hv hlt9 hh ha
      by_cases hd : m ≤ 57
      · have d0 : 48 ≤ m := by omega
        rw [if_pos hd] at HN
        have HN2 := hid (HN.out (a * 16 + ((m : Int) - 48)) (by omega))
        clear HN hxk
        go_wp2
        refine ⟨⟨k + 1, acc * 16 + (m - 48), a * 16 + ((m : Int) - 48), rfl, (by first | rfl | (congr 1; omega)), (by first | rfl | (congr 1; omega)), by omega, by omega, by omega, HN2⟩, by simp [intOf]; omega⟩
      · have d0 : 65 ≤ m := by omega
        have d1 : m ≤ 70 := by omega
        rw [if_neg hd] at HN
        have HN2 := hid (HN.out (a * 16 + ((m : Int) - 55)) (by omega))
        clear HN hxk
        go_wp2_with (go_at_call 202; refine (lowerAF_any m d0 d1 _).mono ?_; rintro e w' ⟨rfl, rfl⟩)
        refine ⟨⟨k + 1, acc * 16 + (m - 55), a * 16 + ((m : Int) - 55), rfl, (by first | rfl | (congr 1; omega)), (by first | rfl | (congr 1; omega)), by omega, by omega, by omega, HN2⟩, by simp [intOf]; omega⟩
    · have HF := hid (show a = ((hxs 0 l : Nat) : Int) by
        obtain ⟨h1, h2, h3⟩ := hh.out
        rw [h2, List.drop_of_length_le (by omega), h1]; rfl)
      clear hh
      go_wp2
      go_ret2
      exact ⟨by rw [HF.out]; rfl, HBW.out⟩
end Go.Proofs.YtohhokjlgihbgaaGreatDoor
/- The contract of strconv.ParseInt at hexadecimal digits, six at most; of strings.HasPrefix. -/
namespace Go.Proofs.YtohhokjlgihbgaaGreatDoor
open Go.RowKit

theorem hxs_six (l : List UInt8) (hl : l.length ≤ 6) (hx : ∀ c, c ∈ l → isHx c = true) : hxs 0 l ≤ 16777215 := by
  have h1 := hxs_le l 0 hx
  have h2 : 16 ^ l.length ≤ 16 ^ 6 := Nat.pow_le_pow_right (by omega) hl
  have h3 : (16 : Nat) ^ 6 = 16777216 := by decide
  omega

set_option maxHeartbeats 1000000 in
set_option maxRecDepth 100000 in
theorem pint_any (l : List UInt8) (w : World) (hne : l ≠ []) (hl : l.length ≤ 6) (hx : ∀ c, c ∈ l → isHx c = true) :
    Calls Tryz.prog 182 #[.string ⟨l.toArray⟩, .int .i64 16, .int .i64 32] w fun e w' => e = .returned (.tuple #[.int .i64 (hxs 0 l : Nat), .nilIface]) ∧ Below w.heap.size w w' := by
  have hpos : 0 < l.length := List.length_pos_iff.2 hne
  have HU := hid (puint_any l w hne hl hx)
  have hv := hxs_six l hl hx
  have hx0 := hx l[0] (List.getElem_mem hpos)
  rw [isHx_iff] at hx0
  have hsz : 0 < (⟨l.toArray⟩ : ByteArray).size := by show 0 < l.toArray.size; simpa using hpos
  obtain ⟨c0, hc0⟩ : ∃ c0, c0 = l[0] := ⟨_, rfl⟩
  rw [← hc0] at hx0
  have hq : (⟨l.toArray⟩ : ByteArray)[0]'hsz = c0 := hc0.symm
  have he : l.isEmpty = false := by simpa using hne
  have m0 : 48 ≤ c0.toNat := by omega
  clear hc0 hx0 hne hx
  obtain ⟨v, hv'⟩ : ∃ v : Int, v = (hxs 0 l : Nat) := ⟨_, rfl⟩
  have v0 : 0 ≤ v := by omega
  have v1 : v ≤ 16777215 := by omega
  rw [← hv'] at HU ⊢
  clear hv' hv
  go_enter Tryz.func182, Tryz.ntmps182
  go_wp2_with fail
  refine HU.out.mono ?_
  rintro e w1 ⟨rfl, hb⟩
  have HB := hid hb
  clear hb HU
  go_wp2
  go_ret2
  exact ⟨rfl, HB.out⟩

set_option maxHeartbeats 1000000 in
theorem parseInt_any (l : List UInt8) (w : World) (hne : l ≠ []) (hl : l.length ≤ 6) (hx : ∀ c, c ∈ l → isHx c = true) :
    Calls Tryz.prog 162 #[.string ⟨l.toArray⟩, .int .i64 16, .int .i64 32] w fun e w' => e = .returned (.tuple #[.int .i64 (hxs 0 l : Nat), .nilIface]) ∧ Below w.heap.size w w' := by
  have HU := hid (pint_any l w hne hl hx)
  clear hne hx
  go_enter Tryz.func162, Tryz.ntmps162
  go_wp2_with fail
  refine HU.out.mono ?_
  rintro e w1 ⟨rfl, hb⟩
  have HB := hid hb
  clear hb HU
  go_wp2
  go_ret2
  exact ⟨rfl, HB.out⟩

/-- Whether a text begins with another one. -/
def pre (l p : List UInt8) : Bool := decide (l.take p.length = p)
set_option maxHeartbeats 1000000 in
theorem has80 (l p : List UInt8) (w : World) :
    Calls Tryz.prog 157 #[.string ⟨l.toArray⟩, .string ⟨p.toArray⟩] w fun e w' => e = .returned (.bool (pre l p)) ∧ w' = w := by
  by_cases h3 : l.length < p.length
  · have e1 : pre l p = false := by
      unfold pre
      rw [decide_eq_false_iff_not]
      intro e
      have := congrArg List.length e
      rw [List.length_take] at this
      omega
    rw [e1]
    go_enter Tryz.func157, Tryz.ntmps157
    go_wp2
    go_ret
    exact ⟨rfl, rfl⟩
  · have HE := hid (show (((⟨l.toArray⟩ : ByteArray).extract 0 p.length).toList == p) = pre l p by
      rw [ByteArray.toList_eq]
      simp only [ByteArray.data_extract, List.extract_toArray, List.extract_eq_take_drop, List.drop_zero, Nat.sub_zero]
      unfold pre
      rw [Bool.beq_eq_decide_eq])
    go_enter Tryz.func157, Tryz.ntmps157
    go_wp2
    go_ret
    exact ⟨by rw [← HE.out]; rfl, rfl⟩
set_option maxHeartbeats 1000000 in
theorem has67 (s : ByteArray) (l p : List UInt8) (b : Bool) (hb : pre l p = b) (w : World) (hs : s = ⟨l.toArray⟩) :
    Calls Tryz.prog 132 #[.string s, .string ⟨p.toArray⟩] w fun e w' => e = .returned (.bool b) ∧ w' = w := by
  subst hs hb
  have H := hid (has80 l p w)
  go_enter Tryz.func132, Tryz.ntmps132
  go_wp2_with fail
  refine H.out.mono ?_
  rintro e w1 ⟨rfl, hw⟩
  obtain rfl := hw.symm
  go_wp2
  go_ret
  exact ⟨rfl, rfl⟩
end Go.Proofs.YtohhokjlgihbgaaGreatDoor
