/-
  ShelfNames.
-/
import Derived.Test.YtgciibcngmimkaaSfH
import Derived.Laws.MakeOwn
namespace Go.Proofs.Ytgciibcngmimkaa
set_option maxRecDepth 100000
set_option linter.unusedSimpArgs false
open Go Go.RowKit Sf

/-- A shelf, all of it from F on. -/
def ShN (F : Nat) (w : World) (b : Nat) (M : List Ent) : Prop := ∃ mo N, ShAt w b mo N M ∧ ∀ k, OfS b mo k → F ≤ k
theorem ShN.of {F : Nat} {w : World} {b : Nat} {M : List Ent} (h : ShN F w b M) : ShP w (some ⟨b, 0, none⟩) M := by
  obtain ⟨mo, N, h, _⟩ := h
  exact .of h
theorem ShN.below {F : Nat} {w w' : World} {b : Nat} {M : List Ent} (h : ShN F w b M) (hb : Below w.heap.size w w') : ShN F w' b M := by
  obtain ⟨mo, N, h, h2⟩ := h
  exact ⟨mo, N, h.below hb, h2⟩
theorem ShN.new (w : World) : ShN w.heap.size (w.alloc (.cells #[.map none] 27)) w.heap.size [] := ⟨none, 0, sh_new w, fun k hk => by rcases hk with rfl | hk; exact Nat.le_refl _; cases hk⟩
theorem ShN.write {F : Nat} {w : World} {b : Nat} {M : List Ent} {r : Rec} {A : Option Addr} {cap : Nat} (h : ShN F w b M) (hr : RecOk w r A cap) (hF : F ≤ w.heap.size) :
    Calls Try.prog 11 #[.pointer (some ⟨b, 0, none⟩), recA r.k r.n A r.d.length cap] w fun e w' => e = .returned (.int .i64 (wrE M r : Nat)) ∧ ShN F w' b (wrM M r) ∧ Below F w w' := by
  obtain ⟨mo, N, h, h2⟩ := h
  refine (write_all h hr).mono ?_
  rintro e w' ⟨rfl, mo', N', h3, h4, h5⟩
  refine ⟨rfl, ⟨mo', N', h3, fun k hk => ?_⟩, h4.below h2 hF⟩
  rcases hk with rfl | hk
  · exact h2 _ (.inl rfl)
  · rcases h5 k hk with h | h
    · exact h2 k (.inr h)
    · omega
/-- Zeros at a block's start. -/
theorem zeros_at {w : World} {b n : Nat} (h : w.heap[b]? = some (.cells (madeCells #[.int .u8 0] n) 5 (0, 0))) : BytesAt w (some ⟨b, 0, none⟩) (List.replicate n 0) := by
  intro j hj
  rw [List.length_replicate] at hj
  refine ⟨_, rfl, ?_⟩
  rw [show (⟨b, 0, none⟩ : Addr).add j = ⟨b, j, none⟩ by simp [Addr.add]; omega, blk_cell h]
  simp [madeCells, hj, byV, Nat.mod_one, List.getD]

theorem one_at (W : World) : BytesAt (W.alloc (.cells #[.int .u8 97] 5 (1, 2))) (some ⟨W.heap.size, 0, none⟩) [97] := by
  intro j hj
  refine ⟨_, rfl, ?_⟩
  match j, hj with
  | 0, _ => exact (by rw [show (⟨W.heap.size, 0, none⟩ : Addr).add 0 = ⟨W.heap.size, 0, none⟩ from rfl, blk_cell (World.alloc_heap_new W _)]; rfl)
theorem five_at (W : World) : BytesAt (W.alloc (.cells #[.int .u8 1, .int .u8 0, .int .u8 2, .int .u8 0, .int .u8 0] 5)) (some ⟨W.heap.size, 0, none⟩) [1, 0, 2, 0, 0] := by
  intro j hj
  refine ⟨_, rfl, ?_⟩
  rw [show (⟨W.heap.size, 0, none⟩ : Addr).add j = ⟨W.heap.size, j, none⟩ by simp [Addr.add]; omega, blk_cell (World.alloc_heap_new W _)]
  match j, hj with
  | 0, _ => rfl
  | 1, _ => rfl
  | 2, _ => rfl
  | 3, _ => rfl
  | 4, _ => rfl
/-- make([]byte, n), written. -/
theorem make_run (W : World) (n : Nat) (h : n ≤ 100000) : (Instr.makeSlice 30 (.int .i64 (n : Int)) (.int .i64 (n : Int))).run Try.prog W = .ok (.slice (some ⟨W.heap.size, 0, none⟩) n n) (W.alloc (.cells (madeCells #[.int .u8 0] n) 5)) := by
  obtain ⟨i0, hi, hz0, hz1, hz2⟩ := info_parts Try.infoU8
  have := run_makeSlice (P := Try.prog) W 30 5 i0 _ Try.underlying30 hi hz0 .i64 .i64 (n : Int) (n : Int) (by omega) (Int.le_refl _) (by rw [hz1]; simp; omega) (by rw [hz2]; omega) (by omega)
  rw [hz1] at this
  simpa [Value.cells] using this
theorem wr_bad (M : List Ent) {r : Rec} (h : may r = false) : wrE M r = 130 ∧ wrM M r = M := by
  have h1 : wrE M r = 130 := by unfold wrE; rw [if_pos h]
  refine ⟨h1, ?_⟩
  unfold wrM; rw [if_pos (by rw [h1]; decide)]
theorem wr_top : wrE [] ⟨255, 1024, List.replicate 1024 0⟩ = 0 ∧ wrM [] ⟨255, 1024, List.replicate 1024 0⟩ = [(16712704, List.replicate 1024 0)] := by
  have hm : may ⟨255, 1024, List.replicate 1024 0⟩ = true := by simp [may]
  have h1 : wrE [] ⟨255, 1024, List.replicate 1024 0⟩ = 0 := by
    unfold wrE; rw [if_neg (by rw [hm]; decide), if_neg (by simp), if_neg (by decide)]; rfl
  refine ⟨h1, ?_⟩
  unfold wrM; rw [if_neg (by rw [h1]; decide), if_neg (by simp)]; rfl

set_option maxHeartbeats 4000000 in
theorem names_any (w : World) : Calls Try.prog 5 #[] w fun e w' => e = .returned (.bool true) ∧ Below w.heap.size w w' := by
  obtain ⟨F, hF⟩ : ∃ F, F = w.heap.size := ⟨_, rfl⟩
  obtain ⟨wB, hwB⟩ : ∃ wB : World → Prop, wB = Below w.heap.size w := ⟨_, rfl⟩
  have HD : Hid (∀ V W : World, wB V → Below V.heap.size V W → wB W) := Lib.hid (fun V W h1 h2 => by rw [hwB] at *; exact h1.trans (h2.mono h1.size))
  have HG : Hid (∀ V W : World, wB V → Below F V W → wB W) := Lib.hid (fun V W h1 h2 => by rw [hwB] at *; rw [hF] at h2; exact h1.trans h2)
  have HZ : Hid (∀ V : World, wB V → F ≤ V.heap.size) := Lib.hid (fun V h1 => by rw [hwB] at h1; rw [hF]; exact h1.size)
  rw [← hwB]
  have HS0 : Hid (ShN F (w.alloc (.cells #[.map none] 27)) w.heap.size []) := Lib.hid (by rw [hF]; exact ShN.new w)
  have HB0 : Hid (wB (w.alloc (.cells #[.map none] 27))) := Lib.hid (by rw [hwB]; exact (Below.refl _ w).alloc (Nat.le_refl _) _)
  have k1 := Go.Joins.run_convert_bytes_const_at (P := Try.prog) (w.alloc (.cells #[.map none] 27)) 30 5 #[.int .u8 97] 1 1 (w.heap.size + 1) (by simp) Try.underlying30 Try.underlying5
  simp only [List.size_toArray, List.length_cons, List.length_nil, Nat.reduceAdd] at k1
  have HW1 : Hid (Calls Try.prog 11 #[.pointer (some ⟨w.heap.size, 0, none⟩), recA 256 0 (some ⟨w.heap.size + 1, 0, none⟩) 1 1] ((w.alloc (.cells #[.map none] 27)).alloc (.cells #[.int .u8 97] 5 (1, 2))) fun e w' => e = .returned (.int .i64 130) ∧ ShN F w' w.heap.size [] ∧ wB w') := by
    have hal := (Below.refl (w.alloc (.cells #[.map none] 27)).heap.size (w.alloc (.cells #[.map none] 27))).alloc (Nat.le_refl _) (.cells #[.int .u8 97] 5 (1, 2))
    have ho := one_at (w.alloc (.cells #[.map none] 27))
    rw [show (w.alloc (.cells #[.map none] 27)).heap.size = w.heap.size + 1 by simp] at ho
    have hb1 := HD.out _ _ HB0.out hal
    refine Lib.hid (((HS0.out.below hal).write (r := ⟨256, 0, [97]⟩) (cap := 1) ⟨ho, fun e => (by cases e), fun c hc => (by simp at hc; omega)⟩ (HZ.out _ hb1)).mono ?_)
    rintro e w' ⟨rfl, h1, h2⟩
    rw [(wr_bad [] (r := ⟨256, 0, [97]⟩) (by decide)).2] at h1
    exact ⟨rfl, h1, HG.out _ _ hb1 h2⟩
  clear hwB HS0 HB0
  go_enter Try.func5, Try.ntmps5
  go_wp2_with fail
  generalize w.heap.size = s at *
  (with_reducible refine HW1.out.mono ?_)
  rintro e W1 ⟨rfl, h1, h2⟩
  have HS1 := Lib.hid h1
  have HB1 := Lib.hid h2
  clear h1 h2 HW1 k1
  have HR : Hid (Calls Try.prog 24 #[.slice (some ⟨W1.heap.size, 0, none⟩) 5 5] (W1.alloc (.cells #[.int .u8 1, .int .u8 0, .int .u8 2, .int .u8 0, .int .u8 0] 5)) fun e w' => e = .returned (.tuple #[.pointer none, .int .i64 131]) ∧ ShN F w' s [] ∧ wB w') := by
    have hal := (Below.refl W1.heap.size W1).alloc (Nat.le_refl _) (.cells #[.int .u8 1, .int .u8 0, .int .u8 2, .int .u8 0, .int .u8 0] 5)
    refine Lib.hid ((read_any (l := [1, 0, 2, 0, 0]) (cap := 5) ⟨five_at W1, fun e => (by cases e), fun c hc => (by simp at hc; omega), (by decide)⟩ (by decide)).mono ?_)
    rintro e w' ⟨hb, ⟨_, rfl⟩ | ⟨M, _, _, _, h, _⟩⟩
    · exact ⟨rfl, (HS1.out.below hal).below hb, HD.out _ _ (HD.out _ _ HB1.out hal) hb⟩
    · rw [show rdA [1, 0, 2, 0, 0] = none by decide] at h
      cases h
  go_wp2_with fail
  (with_reducible refine HR.out.mono ?_)
  rintro e W2 ⟨rfl, h1, h2⟩
  have HS2 := Lib.hid h1
  have HB2 := Lib.hid h2
  clear h1 h2 HR HS1 HB1
  have k3 := Go.Joins.run_convert_bytes_const_at (P := Try.prog) W2 30 5 #[.int .u8 97] 1 1 W2.heap.size rfl Try.underlying30 Try.underlying5
  simp only [List.size_toArray, List.length_cons, List.length_nil, Nat.reduceAdd] at k3
  have HW3 : Hid (Calls Try.prog 11 #[.pointer (some ⟨s, 0, none⟩), recA 0 1025 (some ⟨W2.heap.size, 0, none⟩) 1 1] (W2.alloc (.cells #[.int .u8 97] 5 (1, 2))) fun e w' => e = .returned (.int .i64 130) ∧ ShN F w' s [] ∧ wB w') := by
    have hal := (Below.refl W2.heap.size W2).alloc (Nat.le_refl _) (.cells #[.int .u8 97] 5 (1, 2))
    have hb1 := HD.out _ _ HB2.out hal
    refine Lib.hid (((HS2.out.below hal).write (r := ⟨0, 1025, [97]⟩) (cap := 1) ⟨one_at W2, fun e => (by cases e), fun c hc => (by simp at hc; omega)⟩ (HZ.out _ hb1)).mono ?_)
    rintro e w' ⟨rfl, h1, h2⟩
    rw [(wr_bad [] (r := ⟨0, 1025, [97]⟩) (by decide)).2] at h1
    exact ⟨rfl, h1, HG.out _ _ hb1 h2⟩
  go_wp2_with fail
  (with_reducible refine HW3.out.mono ?_)
  rintro e W3 ⟨rfl, h1, h2⟩
  have HS3 := Lib.hid h1
  have HB3 := Lib.hid h2
  clear h1 h2 k3 HW3 HS2 HB2
  have k4 : (Instr.makeSlice 30 (.int .i64 1025) (.int .i64 1025)).run Try.prog W3 = .ok (.slice (some ⟨W3.heap.size, 0, none⟩) 1025 1025) (W3.alloc (.cells (madeCells #[.int .u8 0] 1025) 5)) := make_run W3 1025 (by omega)
  have HW4 : Hid (Calls Try.prog 11 #[.pointer (some ⟨s, 0, none⟩), recA 0 0 (some ⟨W3.heap.size, 0, none⟩) 1025 1025] (W3.alloc (.cells (madeCells #[.int .u8 0] 1025) 5)) fun e w' => e = .returned (.int .i64 130) ∧ ShN F w' s [] ∧ wB w') := by
    have hal := (Below.refl W3.heap.size W3).alloc (Nat.le_refl _) (.cells (madeCells #[.int .u8 0] 1025) 5)
    have hb1 := HD.out _ _ HB3.out hal
    have hw := (HS3.out.below hal).write (r := ⟨0, 0, List.replicate 1025 0⟩) (cap := 1025) ⟨zeros_at (World.alloc_heap_new W3 _), fun e => (by cases e), fun c hc => (by have := List.eq_of_mem_replicate hc; omega)⟩ (HZ.out _ hb1)
    rw [show (Rec.mk 0 0 (List.replicate 1025 0)).d.length = 1025 by simp] at hw
    refine Lib.hid (hw.mono ?_)
    rintro e w' ⟨rfl, h1, h2⟩
    have hq := wr_bad [] (r := ⟨0, 0, List.replicate 1025 0⟩) (by simp [may])
    rw [hq.2] at h1
    rw [hq.1]
    exact ⟨rfl, h1, HG.out _ _ hb1 h2⟩
  go_wp2_with fail
  (with_reducible refine HW4.out.mono ?_)
  rintro e W4 ⟨rfl, h1, h2⟩
  have HS4 := Lib.hid h1
  have HB4 := Lib.hid h2
  clear h1 h2 k4 HW4 HS3 HB3
  have k5 : (Instr.makeSlice 30 (.int .i64 1024) (.int .i64 1024)).run Try.prog W4 = .ok (.slice (some ⟨W4.heap.size, 0, none⟩) 1024 1024) (W4.alloc (.cells (madeCells #[.int .u8 0] 1024) 5)) := make_run W4 1024 (by omega)
  have HW5 : Hid (Calls Try.prog 11 #[.pointer (some ⟨s, 0, none⟩), recA 255 1024 (some ⟨W4.heap.size, 0, none⟩) 1024 1024] (W4.alloc (.cells (madeCells #[.int .u8 0] 1024) 5)) fun e w' => e = .returned (.int .i64 0) ∧ ShN F w' s [(16712704, List.replicate 1024 0)] ∧ wB w') := by
    have hal := (Below.refl W4.heap.size W4).alloc (Nat.le_refl _) (.cells (madeCells #[.int .u8 0] 1024) 5)
    have hb1 := HD.out _ _ HB4.out hal
    have hw := (HS4.out.below hal).write (r := ⟨255, 1024, List.replicate 1024 0⟩) (cap := 1024) ⟨zeros_at (World.alloc_heap_new W4 _), fun e => (by cases e), fun c hc => (by have := List.eq_of_mem_replicate hc; omega)⟩ (HZ.out _ hb1)
    rw [show (Rec.mk 255 1024 (List.replicate 1024 0)).d.length = 1024 by simp] at hw
    refine Lib.hid (hw.mono ?_)
    rintro e w' ⟨rfl, h1, h2⟩
    rw [wr_top.2] at h1
    rw [wr_top.1]
    exact ⟨rfl, h1, HG.out _ _ hb1 h2⟩
  go_wp2_with fail
  (with_reducible refine HW5.out.mono ?_)
  rintro e W5 ⟨rfl, h1, h2⟩
  have HS5 := Lib.hid h1
  have HB5 := Lib.hid h2
  clear h1 h2 k5 HW5 HS4 HB4
  go_wp2_with fail
  (with_reducible refine (behind_none _ _ _ _ _).mono ?_)
  rintro e W6 ⟨rfl, rfl⟩
  go_wp2_with fail
  (with_reducible refine (get_none _ _ _).mono ?_)
  rintro e W6 ⟨rfl, rfl⟩
  go_wp2_with fail
  (with_reducible refine (alive_any _).mono ?_)
  rintro e W6 ⟨rfl, hb⟩
  have HS6 := Lib.hid (HS5.out.below hb)
  have HB6 := Lib.hid (HD.out _ _ HB5.out hb)
  clear hb HS5 HB5
  obtain ⟨mo, N, hs, _⟩ := HS6.out
  have HL := Lib.hid (len_any hs)
  clear hs
  go_wp2_with fail
  (with_reducible refine HL.out.mono ?_)
  rintro e W7 ⟨rfl, rfl⟩
  clear HL
  simp only [List.length_cons, List.length_nil, Nat.zero_add] at *
  go_wp2_with fail
  (with_reducible refine (write_none _ _ _ _ _ _).mono ?_)
  rintro e W7 ⟨rfl, hb⟩
  have HS7 := Lib.hid (HS6.out.below hb)
  have HB7 := Lib.hid (HD.out _ _ HB6.out hb)
  clear hb HS6 HB6
  go_wp2_with fail
  (with_reducible refine (len_none _).mono ?_)
  rintro e W8 ⟨rfl, rfl⟩
  go_wp2_with fail
  (with_reducible refine (copy_none _).mono ?_)
  rintro e W8 ⟨rfl, rfl⟩
  have HB8 : Hid (wB (W7.alloc (.cells #[.map none] 27))) := Lib.hid (HD.out _ _ HB7.out ((Below.refl _ W7).alloc (Nat.le_refl _) _))
  have HS8 : Hid (ShN F (W7.alloc (.cells #[.map none] 27)) s [(16712704, List.replicate 1024 0)]) := Lib.hid (HS7.out.below ((Below.refl _ W7).alloc (Nat.le_refl _) _))
  have HSm := Lib.hid (same_any (.inl ⟨rfl, rfl⟩) (ShN.new W7).of)
  go_wp2_with fail
  (with_reducible refine HSm.out.mono ?_)
  rintro e W9 ⟨rfl, hb⟩
  have HS9 := Lib.hid (HS8.out.below hb)
  have HB9 := Lib.hid (HD.out _ _ HB8.out hb)
  clear hb HS8 HB8 HSm HS7 HB7
  have HSn := Lib.hid (same_any HS9.out.of (.inl ⟨rfl, rfl⟩))
  go_wp2_with fail
  (with_reducible refine HSn.out.mono ?_)
  rintro e WA ⟨rfl, hb⟩
  have HBA := Lib.hid (HD.out _ _ HB9.out hb)
  clear hb HSn
  go_wp2
  go_ret
  exact ⟨rfl, HBA.out⟩
end Go.Proofs.Ytgciibcngmimkaa
