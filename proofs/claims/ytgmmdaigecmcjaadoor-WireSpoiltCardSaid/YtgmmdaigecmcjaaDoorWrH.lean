/-
  The law WireNames.
-/
import Derived.Test.YtgmmdaigecmcjaaDoorWrG
namespace Go.Proofs.YtgmmdaigecmcjaaDoor
set_option maxRecDepth 100000
set_option linter.unusedSimpArgs false
open Go Go.RowKit Wr

theorem Blk.set {w : World} {g cap : Nat} {l : List Nat} (h : Blk w g cap l) {j : Nat} (_hj : j < l.length) (c : Nat) : Blk (w.setCell ⟨g, j, none⟩ (byV c)) g cap (l.set j c) := by
  obtain ⟨cur, h1, h2, h3⟩ := h.blk
  refine ⟨⟨_, blk_set h1 j (byV c), by simpa using h2, ?_⟩, by simpa using h.le, h.mx⟩
  rw [Array.toList_setIfInBounds, List.length_set, List.take_set, h3, List.map_set]
theorem Blk.setOther {w : World} {g cap : Nat} {l : List Nat} (h : Blk w g cap l) {b j : Nat} (hb : b ≠ g) (v : Value) : Blk (w.setCell ⟨b, j, none⟩ v) g cap l := by
  obtain ⟨cur, h1, h2, h3⟩ := h.blk
  exact ⟨⟨cur, (Below.heap_setCell _ _ _ _ hb.symm).trans h1, h2, h3⟩, h.le, h.mx⟩
theorem BytesAt.take {w : World} {A : Option Addr} {l : List Nat} (h : BytesAt w A l) (n : Nat) : BytesAt w A (l.take n) := by
  intro j hj
  rw [List.length_take] at hj
  obtain ⟨a, ha, hc⟩ := h j (by omega)
  refine ⟨a, ha, ?_⟩
  rw [hc]
  simp [List.getD, List.getElem?_take, show j < n by omega]

/-- Read, where nothing is read. -/
theorem read_none {w : World} (hT : Tab w) {A : Option Addr} {l : List Nat} {cap : Nat} (hB : BytesAt w A l) (hcap : l.length ≤ cap) (hlt : ∀ c ∈ l, c < 256) (hl : l.length ≤ 100000) (h : readF l = none) :
    Calls Tryd.prog 16 #[.slice A l.length cap] w fun e w' => e = .returned (.tuple #[.agg pktZ, .int .i64 70]) ∧ Below w.heap.size w w' := by
  refine (read_any hT hB hcap hlt hl).mono ?_
  rintro e w' ⟨hb, ⟨_, rfl⟩ | ⟨p, A, cap, h1, _⟩⟩
  · exact ⟨rfl, hb⟩
  · rw [h] at h1; cases h1
theorem read_one {w : World} (hT : Tab w) {A : Option Addr} {l : List Nat} {cap : Nat} (hB : BytesAt w A l) (hcap : l.length ≤ cap) (hlt : ∀ c ∈ l, c < 256) (hl : l.length ≤ 100000) {p : Pkt} (h : readF l = some p) :
    Calls Tryd.prog 16 #[.slice A l.length cap] w fun e w' => ∃ A cap, e = .returned (.tuple #[pktA p A p.msg.claims.length cap, .int .i64 0]) ∧ ClaimsAt w' A p.msg.claims ∧ Below w.heap.size w w' := by
  refine (read_any hT hB hcap hlt hl).mono ?_
  rintro e w' ⟨hb, ⟨h1, _⟩ | ⟨p', A, cap, h1, rfl, hC⟩⟩
  · rw [h] at h1; cases h1
  · rw [h] at h1; cases h1; exact ⟨A, cap, rfl, hC, hb⟩

def denyP : Pkt := ⟨0, 1, 0, 0, 0, 0, ⟨5, 3, 0, 0, 0, 0, 0, -1, []⟩⟩
def helloL : List Nat := [1, 254, 2, 253, 0, 255, 0, 255, 0, 255, 1, 254, 0, 255, 0, 255, 0, 255, 0, 255, 0, 255, 0, 255, 0, 255, 0, 255, 0, 255, 0, 255, 0, 255, 0, 255, 9, 246]
theorem hello_l : Wr.bytes helloP = helloL := hello_ok.2
theorem names_facts : readF (helloL.take 37) = none ∧ readF (helloL.set 37 245) = none ∧ okP denyP = true ∧ readF (Wr.bytes denyP) = some denyP ∧ (Wr.bytes denyP).length = 60 ∧
    okM ⟨11, 0, 0, 0, 0, 0, 0, 0, [(1, 2), (5, 0)]⟩ = true ∧ sizeM ⟨11, 0, 0, 0, 0, 0, 0, 0, [(1, 2), (5, 0)]⟩ = 64 ∧ okM ⟨1, 1024, 0, 0, 0, 0, 0, 0, []⟩ = false ∧ okP ⟨0, 0, 0, 0, 0, 0, ⟨4, 0, 0, 0, 0, 0, 0, 0, []⟩⟩ = false ∧ okM ⟨4, 0, 1, 0, 0, 0, 0, 0, []⟩ = false := by decide +kernel

section
variable {w : World} (hT : Tab w)
include hT
theorem size_64 {a : Addr} (h : ClaimsAt w (some a) [(1, 2), (5, 0)]) : Calls Tryd.prog 15 #[.agg #[.int .i64 11, .int .i64 0, .int .u32 0, .int .u64 0, .int .i64 0, .int .i64 0, .int .i64 0, .int .i64 0, .slice (some a) 2 2]] w fun e w' => e = .returned (.int .i64 64) ∧ Below w.heap.size w w' := by
  have := size_any hT ⟨11, 0, 0, 0, 0, 0, 0, 0, [(1, 2), (5, 0)]⟩ 2 h (by decide) (by decide)
  rw [names_facts.2.2.2.2.2.1, names_facts.2.2.2.2.2.2.1] at this
  exact this
theorem size_0 : Calls Tryd.prog 15 #[.agg #[.int .i64 1, .int .i64 1024, .int .u32 0, .int .u64 0, .int .i64 0, .int .i64 0, .int .i64 0, .int .i64 0, .slice none 0 0]] w fun e w' => e = .returned (.int .i64 0) ∧ Below w.heap.size w w' := by
  have := size_any hT ⟨1, 1024, 0, 0, 0, 0, 0, 0, []⟩ 0 (A := none) (fun k hk => by simp at hk) (by decide) (by decide)
  rw [names_facts.2.2.2.2.2.2.2.1] at this
  exact this
theorem check_71 : Calls Tryd.prog 11 #[.agg #[.int .i64 0, .int .i64 0, .int .u32 0, .int .u32 0, .int .u32 0, .int .u32 0, .int .i64 4, .int .i64 0, .int .u32 0, .int .u64 0, .int .i64 0, .int .i64 0, .int .i64 0, .int .i64 0, .slice none 0 0]] w fun e w' => e = .returned (.int .i64 71) ∧ Below w.heap.size w w' := by
  have := checkP_any hT ⟨0, 0, 0, 0, 0, 0, ⟨4, 0, 0, 0, 0, 0, 0, 0, []⟩⟩ 0 (A := none) (fun k hk => by simp at hk) (by decide) (by decide)
  rw [names_facts.2.2.2.2.2.2.2.2.1] at this
  exact this
theorem checkM_71 : Calls Tryd.prog 12 #[.agg #[.int .i64 4, .int .i64 0, .int .u32 1, .int .u64 0, .int .i64 0, .int .i64 0, .int .i64 0, .int .i64 0, .slice none 0 0]] w fun e w' => e = .returned (.int .i64 71) ∧ Below w.heap.size w w' := by
  have := check_any hT ⟨4, 0, 1, 0, 0, 0, 0, 0, []⟩ 0 (A := none) (fun k hk => by simp at hk) (by decide) (by decide)
  rw [names_facts.2.2.2.2.2.2.2.2.2] at this
  exact this
theorem name_11 : Calls Tryd.prog 19 #[.int .i64 11] w fun e w' => e = .returned (.string ⟨#[115, 116, 97, 116, 117, 115]⟩) ∧ w' = w := name_any hT 11
theorem name_12 : Calls Tryd.prog 19 #[.int .i64 12] w fun e w' => e = .returned (.string ⟨#[]⟩) ∧ w' = w := name_any hT 12
end
theorem bytes_hello {w : World} (hT : Tab w) : Calls Tryd.prog 13 #[pktA helloP none 0 0] w fun e w' => ∃ g cap, e = .returned (.tuple #[.slice (some ⟨g, 0, none⟩) 38 cap, .int .i64 0]) ∧ w.heap.size < g ∧ Blk w' g cap helloL ∧ Below w.heap.size w w' := by
  refine (bytesB_any hT helloP 0 (A := none) (fun k hk => by simp [helloP] at hk) (by decide) ⟨by decide, by decide, by decide, by decide, by decide, by decide, fun c hc => by simp [helloP] at hc⟩).mono ?_
  rintro e w2 ⟨hb2, ⟨h1, _⟩ | ⟨_, g, cap, rfl, hg, hB⟩⟩
  · rw [hello_ok.1] at h1; cases h1
  · rw [hello_l] at hB ⊢
    exact ⟨g, cap, rfl, hg, hB, hb2⟩
theorem bytes_deny {w : World} (hT : Tab w) : Calls Tryd.prog 13 #[pktA denyP none 0 0] w fun e w' => ∃ g cap, e = .returned (.tuple #[.slice (some ⟨g, 0, none⟩) 60 cap, .int .i64 0]) ∧ w.heap.size < g ∧ Blk w' g cap (Wr.bytes denyP) ∧ Below w.heap.size w w' := by
  refine (bytesB_any hT denyP 0 (A := none) (fun k hk => by simp [denyP] at hk) (by decide) ⟨by decide, by decide, by decide, by decide, by decide, by decide, fun c hc => by simp [denyP] at hc⟩).mono ?_
  rintro e w2 ⟨hb2, ⟨h1, _⟩ | ⟨_, g, cap, rfl, hg, hB⟩⟩
  · rw [names_facts.2.2.1] at h1; cases h1
  · rw [names_facts.2.2.2.2.1]
    exact ⟨g, cap, rfl, hg, hB, hb2⟩

set_option maxHeartbeats 4000000 in
theorem wnames_any {w : World} (hT : Tab w) : Calls Tryd.prog 5 #[] w fun e w' => e = .returned (.bool true) ∧ Below w.heap.size w w' := by
  obtain ⟨P, hP⟩ : ∃ P : Ending → World → Prop, P = fun e w' => e = .returned (.bool true) ∧ Below w.heap.size w w' := ⟨_, rfl⟩
  have HQ : Hid (∀ w', Below w.heap.size w w' → P (.returned (.bool true)) w') := by rw [hP]; exact fun w' h => ⟨rfl, h⟩
  rw [← hP]
  clear hP
  have HT := Lib.hid hT
  have HTL := Lib.hid hT.lt
  clear hT
  go_enter Tryd.func5, Tryd.ntmps5
  go_wp2_with fail
  refine (hello_any w).mono ?_
  rintro e w1 ⟨rfl, hb1⟩
  go_wp2_with fail
  refine (bytes_hello (HT.out.below hb1)).mono ?_
  rintro e w2 ⟨g, cap, rfl, hg, hB, hb2⟩
  have HW2 : Hid (Below w.heap.size w w2) := hb1.trans (hb2.mono hb1.size)
  have hgw : w.heap.size < g := Nat.lt_of_le_of_lt hb1.size hg
  have HB2 := Lib.hid hB
  have hc38 : 38 ≤ cap := hB.le
  clear hb1 hb2 hB hg
  go_wp2_with fail
  refine (read_none (HT.out.below HW2.out) (HB2.out.at_.take 37) (show 37 ≤ cap by omega) (by decide) (by decide) names_facts.1).mono ?_
  rintro e w3 ⟨rfl, hb3⟩
  have HW3 : Hid (Below w.heap.size w w3) := HW2.out.trans (hb3.mono HW2.out.size)
  have HB3 : Hid (Blk w3 g cap helloL) := HB2.out.below hb3
  have hg3 : g < w3.heap.size := HB3.out.lt
  have f3 : ∀ o, (w3.alloc o).frozen? ⟨g, 37, none⟩ = false := fun o => (HB3.out.below ((Below.refl _ w3).alloc (Nat.le_refl _) o)).free 37
  have c37 : w3.cell? ⟨g, 37, none⟩ = some (.int .u8 246) := HB3.out.cell (j := 37) (by decide)
  clear hb3
  go_wp2_with fail
  have HW4 : Hid (∀ o, Below w.heap.size w ((w3.setCell ⟨g, 37, none⟩ (.int .u8 245)).alloc o)) := fun o => (HW3.out.setCell (p := ⟨g, 37, none⟩) (by show w.heap.size ≤ g; omega) _).alloc (by have := HW3.out.size; simpa using this) o
  have HB4 : Hid (∀ o, Blk ((w3.setCell ⟨g, 37, none⟩ (.int .u8 245)).alloc o) g cap (helloL.set 37 245)) := fun o => (HB3.out.set (j := 37) (by decide) 245).below ((Below.refl _ _).alloc (Nat.le_refl _) o)
  refine (read_none (HT.out.below (HW4.out _)) (HB4.out _).at_ (show 38 ≤ cap by omega) (by decide) (by decide) names_facts.2.1).mono ?_
  rintro e w5 ⟨rfl, hb5⟩
  have HW5 : Hid (Below w.heap.size w w5) := (HW4.out _).trans (hb5.mono (HW4.out _).size)
  clear hb5 HW4 HB4 c37 f3 HB3 HW3 hg3 HB2 HW2
  go_wp2_with fail
  have HA : Hid (∀ o o', Below w.heap.size w ((w5.alloc o).alloc o')) := fun o o' => (HW5.out.alloc HW5.out.size o).alloc (by have := HW5.out.size; simp; omega) o'
  refine (size_64 (HT.out.below (HA.out _ _)) (a := ⟨w5.heap.size + 1, 0, none⟩) (fun k hk => ?_)).mono ?_
  · have hblk := World.alloc_heap_new (w5.alloc (.cells #[.int .i64 0, .int .i64 0, .int .u32 0, .int .u32 0, .int .u32 0, .int .u32 0, .int .i64 0, .int .i64 0, .int .u32 0, .int .u64 0, .int .i64 0, .int .i64 0, .int .i64 0, .int .i64 0, .slice none 0 0] 28)) (.cells #[.int .i64 1, .int .u32 2, .int .i64 5, .int .u32 0] 50)
    rw [World.size_alloc] at hblk
    simp only [List.length_cons, List.length_nil] at hk
    have : k = 0 ∨ k = 1 := by omega
    rcases this with rfl | rfl
    · exact ⟨_, rfl, (blk_cell hblk 0).trans rfl, (blk_cell hblk 1).trans rfl⟩
    · exact ⟨_, rfl, (blk_cell hblk 2).trans rfl, (blk_cell hblk 3).trans rfl⟩
  rintro e w6 ⟨rfl, hb6⟩
  have HW6 : Hid (Below w.heap.size w w6) := (HA.out _ _).trans (hb6.mono (HA.out _ _).size)
  clear hb6 HA HW5
  go_wp2_with fail
  refine (bytes_deny (HT.out.below HW6.out)).mono ?_
  rintro e w7 ⟨g7, cap7, rfl, hg7, hB7, hb7⟩
  have HW7 : Hid (Below w.heap.size w w7) := HW6.out.trans (hb7.mono HW6.out.size)
  have HB7 := Lib.hid hB7
  have hc60 : 60 ≤ cap7 := by have := hB7.le; rw [names_facts.2.2.2.2.1] at this; exact this
  have HR : Calls Tryd.prog 16 #[.slice (some ⟨g7, 0, none⟩) 60 cap7] w7 fun e w' => ∃ A cap, e = .returned (.tuple #[pktA denyP A 0 cap, .int .i64 0]) ∧ ClaimsAt w' A [] ∧ Below w7.heap.size w7 w' := by
    have := read_one (HT.out.below HW7.out) HB7.out.at_ HB7.out.le (bytes_lt denyP) (by rw [names_facts.2.2.2.2.1]; decide) names_facts.2.2.2.1
    rw [names_facts.2.2.2.2.1] at this
    exact this
  clear hb7 hB7 HW6 hg7
  go_wp2_with fail
  refine HR.mono ?_
  rintro e w8 ⟨A8, cap8, rfl, _, hb8⟩
  have HW8 : Hid (Below w.heap.size w w8) := HW7.out.trans (hb8.mono HW7.out.size)
  clear hb8 HW7 HR
  go_wp2_with fail
  obtain ⟨W9, hW9⟩ : ∃ W9, W9 = w8.alloc (.cells #[.int .i64 denyP.from_, .int .i64 denyP.to_, .int .u32 (denyP.fe : Nat), .int .u32 (denyP.te : Nat), .int .u32 (denyP.seq : Nat), .int .u32 (denyP.met : Nat), .int .i64 denyP.msg.kind, .int .i64 denyP.msg.cell, .int .u32 (denyP.msg.gen : Nat), .int .u64 (denyP.msg.stamp : Nat), .int .i64 denyP.msg.prio, .int .i64 denyP.msg.hops, .int .i64 denyP.msg.origin, .int .i64 denyP.msg.other, .slice A8 0 cap8] 28) := ⟨_, rfl⟩
  have HW9 : Hid (Below w.heap.size w W9) := by rw [hW9]; exact HW8.out.alloc HW8.out.size _
  have hp9 : ∃ cs : Array Value, W9.heap[w8.heap.size]? = some (.cells cs 28 (0, 0)) ∧ cs[13]? = some (.int .i64 (-1)) := ⟨_, by rw [hW9]; exact World.alloc_heap_new w8 _, rfl⟩
  obtain ⟨cs9, hp9, hc9⟩ := hp9
  rw [← hW9]
  clear hW9 HW8 HB7
  generalize w8.heap.size = b9 at *
  have HP9 := Lib.hid hp9
  clear hp9
  refine (alive_any (HT.out.below HW9.out)).mono ?_
  rintro e w10 ⟨rfl, hb10⟩
  have HW10 : Hid (Below w.heap.size w w10) := HW9.out.trans (hb10.mono HW9.out.size)
  have HP10 : Hid (w10.heap[b9]? = some (.cells cs9 28 (0, 0))) := ((Kept.of_below (X := fun _ => False) hb10 (Nat.le_refl _)).block _ (blk_lt HP9.out) id).trans HP9.out
  clear hb10 HP9 HW9
  go_wp2_with fail
  refine (size_0 (HT.out.below HW10.out)).mono ?_
  rintro e w11 ⟨rfl, hb11⟩
  have HW11 : Hid (Below w.heap.size w w11) := HW10.out.trans (hb11.mono HW10.out.size)
  have HP11 : Hid (w11.heap[b9]? = some (.cells cs9 28 (0, 0))) := ((Kept.of_below (X := fun _ => False) hb11 (Nat.le_refl _)).block _ (blk_lt HP10.out) id).trans HP10.out
  have c13 : w11.cell? ⟨b9, 13, none⟩ = some (.int .i64 (-1)) := by rw [blk_cell HP11.out]; exact hc9
  clear hb11 HP10 HW10
  go_wp2_with fail
  refine (name_11 (HT.out.below HW11.out)).mono ?_
  rintro e w12 ⟨rfl, hw12⟩
  obtain rfl := hw12.symm
  clear hw12
  go_wp2_with fail
  refine (name_12 (HT.out.below HW11.out)).mono ?_
  rintro e w12 ⟨rfl, hw12⟩
  obtain rfl := hw12.symm
  clear hw12
  go_wp2_with fail
  refine (check_71 (HT.out.below HW11.out)).mono ?_
  rintro e w13 ⟨rfl, hb13⟩
  have HW13 : Hid (Below w.heap.size w w13) := HW11.out.trans (hb13.mono HW11.out.size)
  clear hb13 HW11 HP11 c13
  go_wp2_with fail
  refine (checkM_71 (HT.out.below HW13.out)).mono ?_
  rintro e w14 ⟨rfl, hb14⟩
  have HW14 : Hid (Below w.heap.size w w14) := HW13.out.trans (hb14.mono HW13.out.size)
  clear hb14 HW13
  go_wp2
  first | exact HQ.out _ HW14.out | (go_ret; exact HQ.out _ HW14.out)
end Go.Proofs.YtgmmdaigecmcjaaDoor
