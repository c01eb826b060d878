/- The contract of live: it answers true. -/
import Derived.Test.YtflehkdijfhmgabDoorTexts
import Derived.Test.YtflehkdijfhmgabDoorFeed
import Derived.Lib.SlBytesConst
namespace Go.Proofs.YtflehkdijfhmgabDoor
open Go.RowKit

theorem liveDec (s : ByteArray) (w : World) (hs : s = ⟨#[195, 169, 128, 240, 159, 152, 128]⟩) (hT : Lib.Utf8Tabs 0 1 w) :
    Calls Tryd.prog 19 #[.string s] w fun e w' => e = .returned (.tuple #[.int .i32 233, .int .i64 2]) ∧ Below w.heap.size w w' := by
  have h := decode_eq s [195, 169, 128, 240, 159, 152, 128] w hs hT
  have e : dec [195, 169, 128, 240, 159, 152, 128] = (233, 2) := by decide +kernel
  rw [e] at h
  exact h
theorem liveLast (w : World) (hT : Lib.Utf8Tabs 0 1 w) :
    Calls Tryd.prog 8 #[.string ⟨#[97, 195, 169, 128, 240, 159, 152, 128]⟩] w fun e w' => e = .returned (.tuple #[.int .i32 128512, .int .i64 4]) ∧ Below w.heap.size w w' := by
  have h := last_any [97, 195, 169, 128, 240, 159, 152, 128] w (by simp) hT
  have e : decLast [97, 195, 169, 128, 240, 159, 152, 128] = (128512, 4) := by decide +kernel
  rw [e] at h
  exact h
theorem liveCount (w : World) :
    Calls Tryd.prog 20 #[.string ⟨#[97, 195, 169, 128, 240, 159, 152, 128]⟩] w fun e w' => e = .returned (.int .i64 4) ∧ Below w.heap.size w w' := by
  have h := count_any [97, 195, 169, 128, 240, 159, 152, 128] w (by simp)
  have e : Lib.runeCount ⟨[97, 195, 169, 128, 240, 159, 152, 128].toArray⟩ = 4 := by decide +kernel
  rw [e] at h
  exact h
theorem liveEnc (w : World) :
    Calls Tryd.prog 21 #[.int .i32 8364] w fun e w' => e = .returned (.string ⟨#[226, 130, 172]⟩) ∧ w' = w := by
  have h := encode_any 8364 w
  have e : Utf8.encode 8364 = ⟨#[226, 130, 172]⟩ := by decide +kernel
  rw [e] at h
  exact h
theorem liveIs3 (w : World) (hT : Lib.Utf8Tabs 0 1 w) (h2 : 2 ≤ w.heap.size) :
    Calls Tryd.prog 22 #[.string ⟨#[97, 195, 169, 128, 240, 159, 152, 128]⟩, .int .i64 3] w fun e w' => e = .returned (.bool true) ∧ Below w.heap.size w w' := by
  have h := is_any [97, 195, 169, 128, 240, 159, 152, 128] 3 w (by simp) hT h2
  have e : isE [97, 195, 169, 128, 240, 159, 152, 128] 3 = true := by decide +kernel
  rw [e] at h
  exact h
theorem liveIs2 (w : World) (hT : Lib.Utf8Tabs 0 1 w) (h2 : 2 ≤ w.heap.size) :
    Calls Tryd.prog 22 #[.string ⟨#[97, 195, 169, 128, 240, 159, 152, 128]⟩, .int .i64 2] w fun e w' => e = .returned (.bool false) ∧ Below w.heap.size w w' := by
  have h := is_any [97, 195, 169, 128, 240, 159, 152, 128] 2 w (by simp) hT h2
  have e : isE [97, 195, 169, 128, 240, 159, 152, 128] 2 = false := by decide +kernel
  rw [e] at h
  exact h

theorem liveNew (w : World) :
    Calls Tryd.prog 10 #[] w fun e w' => ∃ x, e = .returned (.pointer (some ⟨x, 0, none⟩)) ∧ ScAt w' x [] 0 ∧ Below w.heap.size w w' ∧ w.heap.size ≤ x ∧ x < w'.heap.size := by
  refine (new_any w).mono ?_
  rintro e w1 ⟨rfl, rfl⟩
  exact ⟨w.heap.size, rfl, ⟨0, 0, 0, heap_alloc_new w _, rfl, by simp⟩, (Below.refl _ _).alloc (Nat.le_refl _) _, Nat.le_refl _, by simp⟩

theorem ScAt.below {w w' : World} {x B : Nat} {hd : List Int} {F : Int} (h : ScAt w x hd F) (hb : Below B w w') (hx : x < B) : ScAt w' x hd F := by
  obtain ⟨a, b, c, h1, h2⟩ := h
  exact ⟨a, b, c, (hb.block x hx).trans h1, h2⟩

/-- A text as bytes: a new row that begins with them. -/
theorem convBytes (w : World) (s : ByteArray) (l : List UInt8) (hs : s = ⟨l.toArray⟩) :
    ∃ (cap : Nat) (C : Array Value), (convert 9 30 (.string s)).run Tryd.prog w = .ok (.slice (some ⟨w.heap.size, 0, none⟩) l.length cap) (w.drew.alloc (.cells C 5 (C.size, C.size + 1))) ∧ l.length ≤ cap ∧
      ∀ i, i < l.length → C[i]? = some (.int .u8 (byt l i)) := by
  subst hs
  have h := run_bytes_of_string (P := Tryd.prog) w 9 30 5 ⟨l.toArray⟩ Tryd.underlying9 Tryd.underlying30 Tryd.underlying5
  have e : (⟨l.toArray⟩ : ByteArray).size = l.length := by show l.toArray.size = _; simp
  rw [e] at h
  refine ⟨grownCap w l.length 0 5, _, h, grownCap_ge w _ _ _, fun i hi => ?_⟩
  have := bytesRow_at ⟨l.toArray⟩ (grownCap w l.length 0 5) i (by simpa using hi)
  rw [this]
  simp [byt, List.getD, hi]

theorem row_cells (w : World) (C : Array Value) (fr : Nat × Nat) (l : List UInt8) (ps : List Int) (hps : ps = l.map fun b => (b.toNat : Int)) (hC : ∀ i, i < l.length → C[i]? = some (.int .u8 (byt l i))) :
    ∀ i, i < l.length → (w.alloc (.cells C 5 fr)).drew.cell? ⟨w.heap.size, 0 + i, none⟩ = some (.int .u8 (ps.getD i 0)) := fun i hi => by
  have h := World.cell?_alloc_mark w C 5 fr i
  rw [Nat.zero_add]
  refine (show (w.alloc (.cells C 5 fr)).drew.cell? ⟨w.heap.size, i, none⟩ = (w.alloc (.cells C 5 fr)).cell? ⟨w.heap.size, i, none⟩ from rfl).trans ?_
  rw [h, hC i hi, hps]
  simp [byt, List.getD, hi]

theorem bytes_bd (l : List UInt8) : ∀ i, i < l.length → 0 ≤ (l.map fun b => (b.toNat : Int)).getD i 0 ∧ (l.map fun b => (b.toNat : Int)).getD i 0 < 256 := fun i hi => by
  have := (l[i]).toNat_lt
  simp [List.getD, hi]; omega

theorem But.below {x : Nat} {w w' : World} (h : But x w.heap.size w w') (B : Nat) (hB : B ≤ x) (hx : x ≤ w.heap.size) : Below B w w' :=
  ⟨h.os, h.tape, h.output, h.size, fun k hk => h.block k (by omega) (by omega)⟩

theorem liveFeed1 (x q cap : Nat) (w : World) (hs : ScAt w x [] 0) (hqx : q ≠ x) (hcp : 6 ≤ cap) (hq : q < w.heap.size) (hc : ∀ i, i < 6 → w.cell? ⟨q, 0 + i, none⟩ = some (.int .u8 (([97, 195, 169, 128, 240, 159] : List Int).getD i 0))) :
    Calls Tryd.prog 11 #[.pointer (some ⟨x, 0, none⟩), .slice (some ⟨q, 0, none⟩) 6 cap] w fun e w' => ∃ g c, e = .returned (.slice (some ⟨g, 0, none⟩) 3 c) ∧ w.heap.size ≤ g ∧ g < w'.heap.size ∧
      w'.cell? ⟨g, 11, none⟩ = some (.bool true) ∧ ScAt w' x [240, 159] 6 ∧ But x w.heap.size w w' := by
  have h := feed_any x q 0 6 cap 0 [] [97, 195, 169, 128, 240, 159] w hs rfl (by omega) (by simp) (by omega) hqx hcp hq (by intro i hi; simp at hi) (by decide) hc
  refine h.mono ?_
  rintro e w' ⟨v, rfl, hown, hsc, hbut⟩
  have e1 : sc (0 - (([] : List Int).length : Int)) ([] ++ [97, 195, 169, 128, 240, 159]) = ([⟨0, 1, 97, false⟩, ⟨1, 2, 233, false⟩, ⟨3, 1, 65533, true⟩], 4) := by kernel_rfl
  rw [e1] at hown hsc
  obtain ⟨g, c, rfl, hg0, hg1⟩ := hown.form (by simp)
  have hcell := hown.cells (g := g) rfl 11 (.bool true) rfl
  rw [addr_add] at hcell
  exact ⟨g, c, rfl, hg0, hg1, hcell, hsc, hbut⟩

theorem liveFeed2 (x q cap : Nat) (w : World) (hs : ScAt w x [240, 159] 6) (hqx : q ≠ x) (hcp : 2 ≤ cap) (hq : q < w.heap.size) (hc : ∀ i, i < 2 → w.cell? ⟨q, 0 + i, none⟩ = some (.int .u8 (([152, 128] : List Int).getD i 0))) :
    Calls Tryd.prog 11 #[.pointer (some ⟨x, 0, none⟩), .slice (some ⟨q, 0, none⟩) 2 cap] w fun e w' => ∃ g c, e = .returned (.slice (some ⟨g, 0, none⟩) 1 c) ∧ w.heap.size ≤ g ∧ g < w'.heap.size ∧
      w'.cell? ⟨g, 0, none⟩ = some (.int .i64 4) ∧ w'.cell? ⟨g, 2, none⟩ = some (.int .i32 128512) ∧ w'.cell? ⟨x, 4, none⟩ = some (.int .i64 8) ∧ But x w.heap.size w w' := by
  have h := feed_any x q 0 2 cap 6 [240, 159] [152, 128] w hs rfl (by omega) (by simp) (by omega) hqx hcp hq (by decide) (by decide) hc
  refine h.mono ?_
  rintro e w' ⟨v, rfl, hown, hsc, hbut⟩
  have e1 : sc (6 - (([240, 159] : List Int).length : Int)) ([240, 159] ++ [152, 128]) = ([⟨4, 4, 128512, false⟩], 4) := by kernel_rfl
  rw [e1] at hown hsc
  obtain ⟨g, c, rfl, hg0, hg1⟩ := hown.form (by simp)
  have c0 := hown.cells (g := g) rfl 0 (.int .i64 4) rfl
  have c2 := hown.cells (g := g) rfl 2 (.int .i32 128512) rfl
  rw [addr_add] at c0 c2
  obtain ⟨a, b, c', hx, _, _⟩ := hsc
  exact ⟨g, c, rfl, hg0, hg1, c0, c2, by rw [cell_of_row w' x 4 _ 56 (0, 0) hx]; rfl, hbut⟩

set_option maxHeartbeats 400000 in
theorem live_any (w : World) (hT : Lib.Utf8Tabs 0 1 w) (h2 : 2 ≤ w.heap.size) :
    Calls Tryd.prog 6 #[] w fun e w' => e = .returned (.bool true) ∧ Below w.heap.size w w' := by
  have HT := hid hT
  clear hT
  go_enter Tryd.func6, Tryd.ntmps6
  go_wp2_with fail
  refine (liveDec _ _ (by decide) (by exact HT.out)).mono ?_
  rintro e w1 ⟨rfl, hb1⟩
  have HT1 := hid (tabs_below HT.out h2 hb1)
  have g1 : 2 ≤ w1.heap.size := by have := hb1.size; omega
  go_wp2_with fail
  refine (liveLast _ (by exact HT1.out)).mono ?_
  rintro e w2 ⟨rfl, hb2⟩
  have HT2 := hid (tabs_below HT1.out g1 hb2)
  have g2 : 2 ≤ w2.heap.size := by have := hb2.size; omega
  have hB2 : Below w.heap.size w w2 := hb1.trans (hb2.mono hb1.size)
  clear hb1 hb2 HT HT1 g1
  go_wp2_with fail
  refine (liveNew _).mono ?_
  rintro e w3 ⟨x, rfl, hx3, hb3, hxa, hxb⟩
  have HX3 := hid hx3
  have HT3 := hid (tabs_below HT2.out g2 hb3)
  have g3 : 2 ≤ w3.heap.size := by have := hb3.size; omega
  have hB3 : Below w.heap.size w w3 := hB2.trans (hb3.mono hB2.size)
  have hwx : w.heap.size ≤ x := by have := hB2.size; omega
  clear hb3 hx3 HT2 g2 hB2 hxa
  go_wp2_with fail
  refine (liveCount _).mono ?_
  rintro e w4 ⟨rfl, hb4⟩
  have HX4 := hid (HX3.out.below hb4 hxb)
  have HT4 := hid (tabs_below HT3.out g3 hb4)
  have g4 : 2 ≤ w4.heap.size := by have := hb4.size; omega
  have hB4 : Below w.heap.size w w4 := hB3.trans (hb4.mono hB3.size)
  have hxb4 : x < w4.heap.size := by have := hb4.size; omega
  clear hb4 HX3 HT3 g3 hB3 hxb
  go_wp2_with fail
  refine (liveEnc _).mono ?_
  rintro e w5 ⟨rfl, rfl⟩
  go_wp2_with fail
  refine (liveIs3 _ (by exact HT4.out) g4).mono ?_
  rintro e w6 ⟨rfl, hb6⟩
  have HX6 := hid (HX4.out.below hb6 hxb4)
  have HT6 := hid (tabs_below HT4.out g4 hb6)
  have g6 : 2 ≤ w6.heap.size := by have := hb6.size; omega
  have hB6 : Below w.heap.size w w6 := hB4.trans (hb6.mono hB4.size)
  have hxb6 : x < w6.heap.size := by have := hb6.size; omega
  clear hb6 HX4 HT4 g4 hB4 hxb4
  go_wp2_with fail
  refine (liveIs2 _ (by exact HT6.out) g6).mono ?_
  rintro e w7 ⟨rfl, hb7⟩
  have HX7 := hid (HX6.out.below hb7 hxb6)
  have hB7 : Below w.heap.size w w7 := hB6.trans (hb7.mono hB6.size)
  have hxb7 : x < w7.heap.size := by have := hb7.size; omega
  clear hb7 HX6 HT6 g6 hB6 hxb6
  obtain ⟨cap, C, hconv, hcap, hC⟩ := convBytes w7 (ByteArray.extract ⟨#[97, 195, 169, 128, 240, 159, 152, 128]⟩ 0 6) [97, 195, 169, 128, 240, 159] (by decide)
  simp only [List.length_cons, List.length_nil, Nat.zero_add, Nat.reduceAdd] at hconv hcap
  have HC := hid (row_cells w7 C (C.size, C.size + 1) [97, 195, 169, 128, 240, 159] [97, 195, 169, 128, 240, 159] rfl hC)
  have hb8 : Below w7.heap.size w7 (w7.alloc (.cells C 5 (C.size, C.size + 1))).drew := ((Below.refl _ _).alloc (Nat.le_refl _) _).drew
  have HX8 := hid (HX7.out.below hb8 hxb7)
  have hB8 : Below w.heap.size w (w7.alloc (.cells C 5 (C.size, C.size + 1))).drew := hB7.trans (hb8.mono hB7.size)
  have HB8 := hid hB8
  have hs8 : (w7.alloc (.cells C 5 (C.size, C.size + 1))).drew.heap.size = w7.heap.size + 1 := by simp
  have HS8 := hid hs8
  clear hC hb8 hB8 HX7 hs8
  go_wp2_with fail
  refine (liveFeed1 x w7.heap.size cap _ (by exact HX8.out) (by omega) hcap (by rw [HS8.out]; omega) (by exact HC.out)).mono ?_
  rintro e w9 ⟨ga, ca, rfl, ga0, ga1, hca, hx9, hb9⟩
  rw [HS8.out] at ga0
  have hB9 : Below w.heap.size w w9 := HB8.out.trans (hb9.below _ hwx (by rw [HS8.out]; omega))
  have hxb9 : x < w9.heap.size := by have := hb9.size; rw [HS8.out] at this; omega
  have HX9 := hid hx9
  have HCA := hid hca
  clear hconv HC HB8 hx9 hb9 HX8 hca HS8
  obtain ⟨cap2, C2, hconv2, hcap2, hC2⟩ := convBytes w9 (ByteArray.extract ⟨#[97, 195, 169, 128, 240, 159, 152, 128]⟩ 6 8) [152, 128] (by decide)
  simp only [List.length_cons, List.length_nil, Nat.zero_add, Nat.reduceAdd] at hconv2 hcap2
  have HC := hid (row_cells w9 C2 (C2.size, C2.size + 1) [152, 128] [152, 128] rfl hC2)
  have hb10 : Below w9.heap.size w9 (w9.alloc (.cells C2 5 (C2.size, C2.size + 1))).drew := ((Below.refl _ _).alloc (Nat.le_refl _) _).drew
  have HX10 := hid (HX9.out.below hb10 hxb9)
  have HB10 := hid (hB9.trans (hb10.mono hB9.size))
  have HCA10 := hid ((hb10.cell (p := ⟨ga, 11, none⟩) ga1).trans HCA.out)
  have HS10 := hid (show (w9.alloc (.cells C2 5 (C2.size, C2.size + 1))).drew.heap.size = w9.heap.size + 1 by simp)
  clear hC2 hb10 HX9 HCA hB9
  go_wp2_with fail
  refine (liveFeed2 x w9.heap.size cap2 _ (by exact HX10.out) (by omega) hcap2 (by rw [HS10.out]; omega) (by exact HC.out)).mono ?_
  rintro e w11 ⟨gb, cb, rfl, gb0, gb1, hcb0, hcb2, hcx, hb11⟩
  have hca11 : w11.cell? ⟨ga, 11, none⟩ = some (.bool true) := by
    rw [← HCA10.out]
    exact World.cell?_of_block (hb11.block ga (by rw [HS10.out]; omega) (by omega))
  have HB11 := hid (HB10.out.trans (hb11.below _ hwx (by rw [HS10.out]; omega)))
  clear hconv2 HC HB10 hb11 HX10 HS10 HCA10 gb0
  go_wp2_with (go_at_call 15; refine (fed_any x 0 8 _ hcx).mono ?_; rintro e w' ⟨rfl, rfl⟩)
  go_ret
  exact ⟨rfl, HB11.out⟩
end Go.Proofs.YtflehkdijfhmgabDoor
