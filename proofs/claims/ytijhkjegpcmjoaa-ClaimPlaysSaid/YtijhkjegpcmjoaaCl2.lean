/-
  The claims as a list for reading; find; Gen.
-/
import Derived.Test.YtijhkjegpcmjoaaCl1
namespace Go.Proofs.Ytijhkjegpcmjoaa
set_option maxRecDepth 100000
set_option linter.unusedSimpArgs false
open Go Go.RowKit Cl
attribute [local go_sem] Oper.semAt_some

theorem alloc_below (w : World) (o : Obj) : Below w.heap.size w (w.alloc o) := (Below.refl _ w).alloc (Nat.le_refl _) _
theorem Try.infoCm : (Try.prog.info? 26).map (·.size) = some 2 := by kernel_rfl
theorem Try.arr16 : Try.prog.underlying 27 = some (.array (Try.prog.arrayLen 27) (Try.prog.elem 27)) := by kernel_rfl
theorem Try.arr16n : Try.prog.arrayLen 27 = 16 := by kernel_rfl
theorem Try.arr16s (W : World) : (sizeOf (Try.prog.elem 27)).run Try.prog W = .ok 2 W := by kernel_rfl
/-- Places from one on; those from one to another one; those up to one. -/
theorem slice_lo (b l : Nat) (hl : l ≤ 16) : ∃ S : Addr, (l < 16 → S = ⟨b, l * 2, none⟩) ∧ ∀ W, (Instr.sliceAt 27 (.pointer (some ⟨b, 0, none⟩)) (some (.int .i64 (l : Int))) none none).run Try.prog W = .ok (.slice (some S) (16 - l) (16 - l)) W := by
  refine ⟨if 16 = l then ⟨b, 0, none⟩ else ⟨b, l * 2, none⟩, fun h => by rw [if_neg (by omega)], fun W => ?_⟩
  rw [run_sliceAt_array_l W _ _ Try.arr16 .i64 (l : Int) (by omega) (by rw [Try.arr16n]; omega), Try.arr16n, Try.arr16s]
  simp only [Result.andThen, slicedAt, Int.toNat_natCast]
  by_cases h : 16 = l
  · rw [if_pos h, if_pos h]
  · rw [if_neg h, if_neg h, Addr.add_lit, Nat.zero_add]
theorem slice_lh (b l h : Nat) (hl : l ≤ h) (hh : h ≤ 16) : ∃ S : Addr, (l < 16 → S = ⟨b, l * 2, none⟩) ∧ ∀ W, (Instr.sliceAt 27 (.pointer (some ⟨b, 0, none⟩)) (some (.int .i64 (l : Int))) (some (.int .i64 (h : Int))) none).run Try.prog W = .ok (.slice (some S) (h - l) (16 - l)) W := by
  refine ⟨if 16 = l then ⟨b, 0, none⟩ else ⟨b, l * 2, none⟩, fun h => by rw [if_neg (by omega)], fun W => ?_⟩
  rw [run_sliceAt_array_lh W _ _ Try.arr16 .i64 .i64 (l : Int) (h : Int) (by omega) (by omega) (by rw [Try.arr16n]; omega), Try.arr16n, Try.arr16s]
  simp only [Result.andThen, slicedAt, Int.toNat_natCast]
  by_cases h : 16 = l
  · rw [if_pos h, if_pos h]
  · rw [if_neg h, if_neg h, Addr.add_lit, Nat.zero_add]
theorem slice_h (b h : Nat) (hh : h ≤ 16) : ∀ W, (Instr.sliceAt 27 (.pointer (some ⟨b, 0, none⟩)) none (some (.int .i64 (h : Int))) none).run Try.prog W = .ok (.slice (some ⟨b, 0, none⟩) h 16) W := by
  intro W
  rw [run_sliceAt_array_h W _ _ Try.arr16 .i64 (h : Int) (by omega) (by rw [Try.arr16n]; omega), Try.arr16n, Try.arr16s]
  simp only [Result.andThen, slicedAt, Int.toNat_natCast]
  rw [if_neg (by omega)]
  simp [Addr.add_lit]

theorem CP.ok {w : World} {p : Option Addr} {l : List Cm} (h : CP w p l) : Ok l := by
  rcases h with ⟨_, rfl⟩ | ⟨b, _, h⟩
  · exact Ok.nil
  · exact h.1
theorem CP.below {w w' : World} {p : Option Addr} {l : List Cm} (h : CP w p l) (hb : Below w.heap.size w w') : CP w' p l := by
  rcases h with ⟨e, e2⟩ | ⟨b, e, h⟩
  · exact .inl ⟨e, e2⟩
  · exact .inr ⟨b, e, h.below hb⟩
/-- The claims as they lie, only for reading. -/
def ThAt (w : World) (v : Value) (l : List Cm) : Prop := (v = .slice none 0 0 ∧ l = []) ∨ ∃ b, v = .slice (some ⟨b, 0, none⟩) l.length 16 ∧ CAt w b l
theorem ThAt.ok {w : World} {v : Value} {l : List Cm} (h : ThAt w v l) : Ok l := by
  rcases h with ⟨_, rfl⟩ | ⟨b, _, h⟩
  · exact Ok.nil
  · exact h.1
theorem ThAt.below {w w' : World} {v : Value} {l : List Cm} (h : ThAt w v l) (hb : Below w.heap.size w w') : ThAt w' v l := by
  rcases h with ⟨e, e2⟩ | ⟨b, e, h⟩
  · exact .inl ⟨e, e2⟩
  · exact .inr ⟨b, e, h.below hb⟩
theorem there_any {w : World} {p : Option Addr} {l : List Cm} (h : CP w p l) :
    Calls Try.prog 34 #[.pointer p] w fun e w' => (∃ v, e = .returned v ∧ ThAt w' v l) ∧ Below w.heap.size w w' := by
  rcases h with ⟨rfl, rfl⟩ | ⟨b, rfl, h⟩
  · go_enter Try.func34, Try.ntmps34
    go_wp2
    go_ret
    exact ⟨⟨_, rfl, .inl ⟨rfl, rfl⟩⟩, Below.refl _ _⟩
  · have cn : w.drew.cell? ⟨b, 32, none⟩ = some (.int .i64 (l.length : Int)) := h.2.count
    have sl := slice_h b l.length h.1.len
    have HF : Hid (∀ k, (ThAt (w.drewN k) (.slice (some ⟨b, 0, none⟩) l.length 16) l) ∧ Below w.heap.size w (w.drewN k)) := fun k => ⟨.inr ⟨b, rfl, h.below (bel_drewN (Below.refl _ _) k)⟩, bel_drewN (Below.refl _ _) k⟩
    clear h
    generalize l.length = n at *
    go_enter Try.func34, Try.ntmps34
    go_wp2_with fail
    go_region
    go_wp2
    go_ret
    exact ⟨⟨_, rfl, (HF.out 1).1⟩, (HF.out 1).2⟩

set_option maxHeartbeats 2000000 in
theorem find_any {w : World} {p : Option Addr} {l : List Cm} (h : CP w p l) (c : Int) :
    Calls Try.prog 28 #[.pointer p, .int .i64 c] w fun e w' => e = .returned (.tuple #[.int .i64 (idx l c : Nat), .bool (has l c)]) ∧ Below w.heap.size w w' := by
  obtain ⟨R, hR⟩ : ∃ R : Ending → World → Prop, R = fun e w' => e = .returned (.tuple #[.int .i64 (idx l c : Nat), .bool (has l c)]) ∧ Below w.heap.size w w' := ⟨_, rfl⟩
  have HP : Hid (∀ w', Below w.heap.size w w' → R (.returned (.tuple #[.int .i64 (idx l c : Nat), .bool (has l c)])) w') := by
    rw [hR]; intro w' h3; exact ⟨rfl, h3⟩
  rw [← hR]
  clear hR
  have HT : Hid (Calls Try.prog 34 #[.pointer p] (w.alloc (.cells #[.int .i64 c] 3)) fun e w' => ∃ A cap, e = .returned (.slice A l.length cap) ∧ ThAt w' (.slice A l.length cap) l ∧ w'.heap[w.heap.size]? = some (.cells #[.int .i64 c] 3 (0, 0)) ∧ Below w.heap.size w w') := by
    refine (there_any (h.below (alloc_below w _))).mono ?_
    rintro e w' ⟨⟨v, rfl, hv⟩, hb⟩
    have h1 := World.alloc_heap_new w (.cells #[.int .i64 c] 3)
    have h2 := (hb.block w.heap.size (by simp)).trans h1
    have h3 : Below w.heap.size w w' := (alloc_below w _).trans (hb.mono (by simp))
    rcases hv with ⟨rfl, rfl⟩ | ⟨b, rfl, hc⟩
    · exact ⟨none, 0, rfl, .inl ⟨rfl, rfl⟩, h2, h3⟩
    · exact ⟨_, _, rfl, .inr ⟨b, rfl, hc⟩, h2, h3⟩
  clear h
  go_enter Try.func28, Try.ntmps28
  go_wp2_with fail
  refine HT.out.mono ?_
  rintro e W1 ⟨A, cap, rfl, hT, hb, hB⟩
  have HS : Hid (Calls Try.prog 37 #[.int .i64 (l.length : Int), .func (.func 38) #[] #[.pointer (some ⟨w.heap.size, 0, none⟩), .pointer (some ⟨W1.heap.size, 0, none⟩)]] (W1.alloc (.cells #[.slice A l.length cap] 42)) fun e w' => e = .returned (.tuple #[.int .i64 (idx l c : Nat), .bool (has l c)]) ∧ Below w.heap.size w w') := by
    have h1 := World.alloc_heap_new W1 (.cells #[.slice A l.length cap] 42)
    have h2 := (Below.heap_alloc W1 (.cells #[.slice A l.length cap] 42) w.heap.size (blk_lt hb)).trans hb
    have hT2 := hT.below (alloc_below W1 (.cells #[.slice A l.length cap] 42))
    have hB2 : Below w.heap.size w (W1.alloc (.cells #[.slice A l.length cap] 42)) := hB.trans ((alloc_below W1 _).mono hB.size)
    have h5 : (W1.alloc (.cells #[.slice A l.length cap] 42)).heap.size = W1.heap.size + 1 := by simp
    generalize W1.alloc (.cells #[.slice A l.length cap] 42) = W2 at *
    refine (sfind_any (l := l) (c := c) hT.ok.ris hT.ok.len rfl (fun V i hV hi => ?_)).mono ?_
    · rcases hT2 with ⟨_, rfl⟩ | ⟨b, e, hc⟩
      · simp at hi
      · cases e
        have hc2 := hc.below hV
        have hl16 := hc.1.len
        refine look_any (b := b) (n := l.length) ?_ ?_ (hc2.cm hi).1 hi hl16
        · rw [blk_cell ((hV.block _ (by have := blk_lt h2; omega)).trans h2)]; rfl
        · rw [blk_cell ((hV.block _ (blk_lt h1)).trans h1)]; rfl
    · rintro e w' ⟨rfl, h3⟩
      exact ⟨rfl, hB2.trans (h3.mono hB2.size)⟩
  clear hT hb hB HT
  go_wp2_with fail
  refine HS.out.mono ?_
  rintro e W3 ⟨rfl, hB⟩
  have HFn := Lib.hid (HP.out _ hB)
  clear HS HP hB
  go_wp2
  exact HFn.out

theorem gen_any {w : World} {p : Option Addr} {l : List Cm} (h : CP w p l) (c : Int) :
    Calls Try.prog 17 #[.pointer p, .int .i64 c] w fun e w' => e = .returned (.tuple #[.int .u32 (genG l c), .bool (has l c)]) ∧ Below w.heap.size w w' := by
  have HC := Lib.hid (find_any h c)
  have hok := h.ok
  by_cases hh : has l c = true
  · have hlt := has_lt hh
    have hl := hok.len
    have hG : genG l c = (l.getD (idx l c) c0).g := by unfold genG; rw [if_pos hh]; rfl
    rw [hG]
    rw [hh] at HC ⊢
    rcases h with ⟨_, rfl⟩ | ⟨b, rfl, h⟩
    · exact absurd hlt.1 (by simp)
    have HL : Hid (∀ V, Below w.heap.size w V → V.cell? ⟨b, idx l c * 2 + 1, none⟩ = some (.int .u32 (l.getD (idx l c) c0).g)) := fun V hV => ((h.below hV).cm hlt.1).2
    have i0 : (0 : Int) ≤ (idx l c : Int) := by omega
    have i1 : (idx l c : Int) < 16 := by have := hlt.1; omega
    clear h hok hG hlt hl hh
    generalize (l.getD (idx l c) c0).g = g at *
    generalize idx l c = i at *
    go_enter Try.func17, Try.ntmps17
    go_wp2_with fail
    refine HC.out.mono ?_
    rintro e W1 ⟨rfl, hB⟩
    have z := HL.out W1 hB
    go_wp2
    first | exact ⟨rfl, hB⟩ | (go_ret2; exact ⟨rfl, hB⟩)
  · have hf : has l c = false := by simpa using hh
    have hG : genG l c = 0 := by unfold genG; rw [if_neg hh]
    rw [hG]
    rw [hf] at HC ⊢
    clear h hok hG hh hf
    generalize idx l c = i at *
    go_enter Try.func17, Try.ntmps17
    go_wp2_with fail
    refine HC.out.mono ?_
    rintro e W1 ⟨rfl, hB⟩
    go_wp2
    first | exact ⟨rfl, hB⟩ | (go_ret2; exact ⟨rfl, hB⟩)
end Go.Proofs.Ytijhkjegpcmjoaa
