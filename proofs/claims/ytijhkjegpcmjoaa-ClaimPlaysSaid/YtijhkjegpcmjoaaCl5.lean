/-
  A cell's record; the chapter's first examples.
-/
import Derived.Test.YtijhkjegpcmjoaaCl4
import Derived.Laws.IdiomCopy
namespace Go.Proofs.Ytijhkjegpcmjoaa
set_option maxRecDepth 100000
set_option linter.unusedSimpArgs false
open Go Go.RowKit Cl

/-- A generation's bytes, the highest first. -/
def by4 (g : Int) : List Int := [g / 16777216, g / 65536 % 256, g / 256 % 256, g % 256]
/-- Bytes of a record: four, in a block of their own, or none. -/
def D4 (w : World) (v : Value) (o : Option Int) : Prop :=
  match o with
  | none => v = .slice none 0 0
  | some g => ∃ k, v = .slice (some ⟨k, 0, none⟩) 4 4 ∧ w.heap[k]? = some (.cells #[.int .u8 (g / 16777216), .int .u8 (g / 65536 % 256), .int .u8 (g / 256 % 256), .int .u8 (g % 256)] 5 (0, 0))
theorem D4.below {w w' : World} {v : Value} {o : Option Int} (h : D4 w v o) (hb : Below w.heap.size w w') : D4 w' v o := by
  cases o with
  | none => exact h
  | some g =>
    obtain ⟨k, e, h⟩ := h
    exact ⟨k, e, (hb.block k (blk_lt h)).trans h⟩
/-- What a record says of a cell. -/
def genO (l : List Cm) (c : Int) : Option Int := if has l c then some (at_ l c).g else none
set_option maxHeartbeats 1000000 in
theorem record_any {w : World} {p : Option Addr} {l : List Cm} (h : CP w p l) (c : Int) :
    Calls Try.prog 21 #[.pointer p, .int .i64 c] w fun e w' => ∃ d, e = .returned (.agg #[.int .i64 2, .int .i64 c, d]) ∧ D4 w' d (genO l c) ∧ Below w.heap.size w w' := by
  obtain ⟨o1, ho1⟩ : ∃ o : Obj, o = .cells #[.int .i64 0, .int .i64 0, .slice none 0 0] 49 := ⟨_, rfl⟩
  obtain ⟨o2, ho2⟩ : ∃ o : Obj, o = .cells #[.int .i64 2, .int .i64 c, .slice none 0 0] 49 := ⟨_, rfl⟩
  have hok := h.ok
  have HC : Hid (Calls Try.prog 17 #[.pointer p, .int .i64 c] ((w.alloc o1).alloc o2) fun e w' => e = .returned (.tuple #[.int .u32 (genG l c), .bool (has l c)]) ∧ w'.heap[w.heap.size]? = some o1 ∧ w'.heap[w.heap.size + 1]? = some o2 ∧ Below w.heap.size w w') := by
    have h1 := World.alloc_heap_new w o1
    have h2 := World.alloc_heap_new (w.alloc o1) o2
    have h3 := (Below.heap_alloc (w.alloc o1) o2 w.heap.size (by simp)).trans h1
    have b2 : Below w.heap.size w ((w.alloc o1).alloc o2) := (alloc_below w o1).trans ((alloc_below (w.alloc o1) o2).mono (by simp))
    rw [World.size_alloc] at h2
    refine (gen_any ((h.below (alloc_below w o1)).below (alloc_below (w.alloc o1) o2)) c).mono ?_
    rintro e w' ⟨rfl, hb⟩
    exact ⟨rfl, (hb.block _ (blk_lt h3)).trans h3, (hb.block _ (blk_lt h2)).trans h2, b2.trans (hb.mono b2.size)⟩
  rw [ho1, ho2] at HC
  clear h ho1 ho2 o1 o2
  unfold genO
  cases hh : has l c with
  | true =>
    have hgen := hok.gen _ (at_mem hh)
    have hG : genG l c = (at_ l c).g := by unfold genG; rw [if_pos hh]
    rw [hh, hG] at HC
    clear hG hok hh
    generalize (at_ l c).g = g at *
    go_enter Try.func21, Try.ntmps21
    go_wp2_with fail
    refine HC.out.mono ?_
    rintro e W1 ⟨rfl, z1, z2, hB⟩
    obtain ⟨o, ho⟩ : ∃ o : Obj, o = .cells #[.int .u8 (g / 16777216), .int .u8 (g / 65536 % 256), .int .u8 (g / 256 % 256), .int .u8 (g % 256)] 5 := ⟨_, rfl⟩
    have j1 := (Below.heap_alloc W1 o _ (blk_lt z1)).trans z1
    have j2 := (Below.heap_alloc W1 o _ (blk_lt z2)).trans z2
    have j3 := World.alloc_heap_new W1 o
    have hB3 := hB.trans ((alloc_below W1 o).mono hB.size)
    have hlt := blk_lt z2
    have x0 : (W1.alloc o).cell? ⟨w.heap.size, 0, none⟩ = some (.int .i64 0) := by rw [blk_cell j1]; rfl
    have x1 : (W1.alloc o).cell? ⟨w.heap.size, 1, none⟩ = some (.int .i64 0) := by rw [blk_cell j1]; rfl
    have x2 : (W1.alloc o).cell? ⟨w.heap.size, 2, none⟩ = some (.slice none 0 0) := by rw [blk_cell j1]; rfl
    have y0 : (W1.alloc o).cell? ⟨w.heap.size + 1, 0, none⟩ = some (.int .i64 2) := by rw [blk_cell j2]; rfl
    have y1 : (W1.alloc o).cell? ⟨w.heap.size + 1, 1, none⟩ = some (.int .i64 c) := by rw [blk_cell j2]; rfl
    have y2 : (W1.alloc o).cell? ⟨w.heap.size + 1, 2, none⟩ = some (.slice none 0 0) := by rw [blk_cell j2]; rfl
    have f0 := blk_free j1 0
    have f1 := blk_free j1 1
    have f2 := blk_free j1 2
    have f3 := blk_free j2 2
    have HJ : Hid ((W1.alloc o).heap[W1.heap.size]? = some (.cells #[.int .u8 (g / 16777216), .int .u8 (g / 65536 % 256), .int .u8 (g / 256 % 256), .int .u8 (g % 256)] 5 (0, 0))) := by rw [← ho]; exact j3
    have HB3 : Hid (Below w.heap.size w (W1.alloc o) ∧ w.heap.size + 1 < W1.heap.size) := ⟨hB3, hlt⟩
    rw [ho] at x0 x1 x2 y0 y1 y2 f0 f1 f2 f3 HJ HB3
    have HJ1 := Lib.hid j1
    rw [ho] at HJ1
    clear j1 j2 j3 hB3 hlt hB z1 z2 ho o HC
    go_wp2_with fail
    generalize W1.alloc (.cells #[.int .u8 (g / 16777216), .int .u8 (g / 65536 % 256), .int .u8 (g / 256 % 256), .int .u8 (g % 256)] 5) = W2 at *
    have e1 : (W2.setCell ⟨w.heap.size + 1, 2, none⟩ (.slice (some ⟨W1.heap.size, 0, none⟩) 4 4)).heap[w.heap.size]? = some (.cells #[.int .i64 0, .int .i64 0, .slice none 0 0] 49 (0, 0)) := by
      rw [Below.heap_setCell _ _ _ _ (by simp)]; exact HJ1.out
    have e2 := blk_set (blk_set (blk_set e1 0 (.int .i64 2)) 1 (.int .i64 c)) 2 (.slice (some ⟨W1.heap.size, 0, none⟩) 4 4)
    have g0 := (blk_cell e2 0).trans (show _ = some (Value.int .i64 2) from rfl)
    have g1 := (blk_cell e2 1).trans (show _ = some (Value.int .i64 c) from rfl)
    have g2 := (blk_cell e2 2).trans (show _ = some (Value.slice (some ⟨W1.heap.size, 0, none⟩) 4 4) from rfl)
    clear e1 e2 x0 x1 x2 y0 y1 y2 f0 f1 f2 f3
    refine bodyPost_ret (v := .agg #[.int .i64 2, .int .i64 c, .slice (some ⟨W1.heap.size, 0, none⟩) 4 4]) (by generalize (((W2.setCell ⟨w.heap.size + 1, 2, none⟩ (.slice (some ⟨W1.heap.size, 0, none⟩) 4 4)).setCell ⟨w.heap.size, 0, none⟩ (.int .i64 2)).setCell ⟨w.heap.size, 1, none⟩ (.int .i64 c)).setCell ⟨w.heap.size, 2, none⟩ (.slice (some ⟨W1.heap.size, 0, none⟩) 4 4) = W3 at g0 g1 g2 ⊢; simp [results, Try.results21, go_sem, g0, g1, g2]) rfl ⟨_, rfl, ⟨_, rfl, ?_⟩, ?_⟩
    · have hlt := HB3.out.2
      rw [Below.heap_setCell _ _ _ _ (by simp; omega), Below.heap_setCell _ _ _ _ (by simp; omega), Below.heap_setCell _ _ _ _ (by simp; omega), Below.heap_setCell _ _ _ _ (by simp; omega)]
      exact HJ.out
    · have k0 : Kept (fun _ => False) w W2 := Kept.of_below HB3.out.1 (Nat.le_refl _)
      exact ((((k0.setCell (p := ⟨w.heap.size + 1, 2, none⟩) (.inr (Nat.le_succ _)) _).setCell (p := ⟨w.heap.size, 0, none⟩) (.inr (Nat.le_refl _)) _).setCell (p := ⟨w.heap.size, 1, none⟩) (.inr (Nat.le_refl _)) _).setCell (p := ⟨w.heap.size, 2, none⟩) (.inr (Nat.le_refl _)) _).below (fun _ h => h.elim) (Nat.le_refl _)
  | false =>
    rw [hh] at HC
    clear hok hh
    generalize genG l c = g at *
    go_enter Try.func21, Try.ntmps21
    go_wp2_with fail
    refine HC.out.mono ?_
    rintro e W1 ⟨rfl, z1, z2, hB⟩
    have hlt := blk_lt z2
    have x0 : W1.cell? ⟨w.heap.size, 0, none⟩ = some (.int .i64 0) := by rw [blk_cell z1]; rfl
    have x1 : W1.cell? ⟨w.heap.size, 1, none⟩ = some (.int .i64 0) := by rw [blk_cell z1]; rfl
    have x2 : W1.cell? ⟨w.heap.size, 2, none⟩ = some (.slice none 0 0) := by rw [blk_cell z1]; rfl
    have y0 : W1.cell? ⟨w.heap.size + 1, 0, none⟩ = some (.int .i64 2) := by rw [blk_cell z2]; rfl
    have y1 : W1.cell? ⟨w.heap.size + 1, 1, none⟩ = some (.int .i64 c) := by rw [blk_cell z2]; rfl
    have y2 : W1.cell? ⟨w.heap.size + 1, 2, none⟩ = some (.slice none 0 0) := by rw [blk_cell z2]; rfl
    have f0 := blk_free z1 0
    have f1 := blk_free z1 1
    have f2 := blk_free z1 2
    have HB3 : Hid (Below w.heap.size w W1) := hB
    have HJ1 := Lib.hid z1
    clear hB z1 z2 hlt HC
    go_wp2_with fail
    have e2 := blk_set (blk_set (blk_set HJ1.out 0 (.int .i64 2)) 1 (.int .i64 c)) 2 (.slice none 0 0)
    have g0 := (blk_cell e2 0).trans (show _ = some (Value.int .i64 2) from rfl)
    have g1 := (blk_cell e2 1).trans (show _ = some (Value.int .i64 c) from rfl)
    have g2 := (blk_cell e2 2).trans (show _ = some (Value.slice none 0 0) from rfl)
    clear e2 x0 x1 x2 y0 y1 y2 f0 f1 f2
    refine bodyPost_ret (v := .agg #[.int .i64 2, .int .i64 c, .slice none 0 0]) (by generalize ((W1.setCell ⟨w.heap.size, 0, none⟩ (.int .i64 2)).setCell ⟨w.heap.size, 1, none⟩ (.int .i64 c)).setCell ⟨w.heap.size, 2, none⟩ (.slice none 0 0) = W3 at g0 g1 g2 ⊢; simp [results, Try.results21, go_sem, g0, g1, g2]) rfl ⟨_, rfl, rfl, ?_⟩
    have k0 : Kept (fun _ => False) w W1 := Kept.of_below HB3.out (Nat.le_refl _)
    exact (((k0.setCell (p := ⟨w.heap.size, 0, none⟩) (.inr (Nat.le_refl _)) _).setCell (p := ⟨w.heap.size, 1, none⟩) (.inr (Nat.le_refl _)) _).setCell (p := ⟨w.heap.size, 2, none⟩) (.inr (Nat.le_refl _)) _).below (fun _ h => h.elim) (Nat.le_refl _)

/-- The chapter's claims. -/
def l2 : List Cm := [⟨2, 300⟩, ⟨7, 3⟩]
theorem new_any (w : World) : ∃ cs, cs = (csM (pad []) ++ [Value.int .i64 ((0 : Nat) : Int)]).toArray ∧ CAt (w.alloc (.cells cs 29)) w.heap.size [] := ⟨_, rfl, CAt.fresh _ rfl⟩
def z33 : Array Value := #[.int .i64 0, .int .u32 0, .int .i64 0, .int .u32 0, .int .i64 0, .int .u32 0, .int .i64 0, .int .u32 0, .int .i64 0, .int .u32 0, .int .i64 0, .int .u32 0, .int .i64 0, .int .u32 0, .int .i64 0, .int .u32 0, .int .i64 0, .int .u32 0, .int .i64 0, .int .u32 0, .int .i64 0, .int .u32 0, .int .i64 0, .int .u32 0, .int .i64 0, .int .u32 0, .int .i64 0, .int .u32 0, .int .i64 0, .int .u32 0, .int .i64 0, .int .u32 0, .int .i64 0]
theorem z33_new (w : World) : CAt (w.alloc (.cells z33 29)) w.heap.size [] := CAt.fresh _ rfl
theorem take_lit {w : World} {b : Nat} {l : List Cm} (h : CAt w b l) (c g : Int) {e : Int} {l' : List Cm} (h0 : 0 ≤ g ∧ g < 4294967296) (h1 : takeE l c = e) (h2 : takeL l ⟨c, g⟩ = l') :
    Calls Try.prog 9 #[.pointer (some ⟨b, 0, none⟩), .int .i64 c, .int .u32 g] w fun x w' => x = .returned (.int .i64 e) ∧ CAt w' b l' ∧ Kept (fun k => k = b) w w' := by
  subst h1 h2
  exact take_any h (x := ⟨c, g⟩) h0
set_option maxHeartbeats 1000000 in
theorem some_any (w : World) : Calls Try.prog 26 #[] w fun e w' => e = .returned (.pointer (some ⟨w.heap.size, 0, none⟩)) ∧ CAt w' w.heap.size l2 ∧ Below w.heap.size w w' := by
  obtain ⟨W0, hW0⟩ : ∃ W0, w.alloc (.cells z33 29) = W0 := ⟨_, rfl⟩
  have h0 := z33_new w
  have b0 := alloc_below w (.cells z33 29)
  rw [hW0] at h0 b0
  have H1 : Hid (Calls Try.prog 9 #[.pointer (some ⟨w.heap.size, 0, none⟩), .int .i64 7, .int .u32 3] W0 fun x w' => x = .returned (.int .i64 0) ∧ CAt w' w.heap.size [⟨7, 3⟩] ∧ Kept (fun k => k = w.heap.size) W0 w') := take_lit h0 7 3 (by omega) rfl rfl
  have HB0 := Lib.hid b0
  clear h0 b0
  unfold z33 at hW0
  go_enter Try.func26, Try.ntmps26
  go_wp2_with fail
  refine H1.out.mono ?_
  rintro e W1 ⟨rfl, h1, k1⟩
  have H2 : Hid (Calls Try.prog 9 #[.pointer (some ⟨w.heap.size, 0, none⟩), .int .i64 2, .int .u32 300] W1 fun x w' => x = .returned (.int .i64 0) ∧ CAt w' w.heap.size l2 ∧ Kept (fun k => k = w.heap.size) W1 w') := take_lit h1 2 300 (by omega) rfl rfl
  clear h1 H1
  go_wp2_with fail
  refine H2.out.mono ?_
  rintro e W2 ⟨rfl, h2, k2⟩
  have hF : CAt W2 w.heap.size l2 ∧ Below w.heap.size w W2 := ⟨h2, (((Kept.of_below (X := fun k => k = w.heap.size) HB0.out (Nat.le_refl _)).trans k1 (fun _ _ h => h)).trans k2 (fun _ _ h => h)).below (fun k h => by omega) (Nat.le_refl _)⟩
  have HF := Lib.hid hF
  clear hF h2 k1 k2 H2 HB0 hW0
  go_wp2
  go_ret
  exact ⟨rfl, HF.out⟩

theorem conv4 {w : World} {k : Nat} (h : w.heap[k]? = some (.cells #[.int .u8 0, .int .u8 0, .int .u8 1, .int .u8 44] 5 (0, 0))) :
    (convert 47 9 (.slice (some ⟨k, 0, none⟩) 4 4)).run Try.prog w = .ok (.string ⟨#[0, 0, 1, 44]⟩) w := by
  have h1 : Try.prog.underlying 47 = some (.slice 5) := by kernel_rfl
  have h2 : Try.prog.underlying 5 = some (.int .u8) := by kernel_rfl
  have h3 : Try.prog.underlying 9 = some .string := by kernel_rfl
  have := run_convert_bytes_back w _ _ _ ⟨k, 0, none⟩ 4 [0, 0, 1, 44] h1 h2 h3 (by
    intro j hj
    have e : (⟨k, 0, none⟩ : Addr).add j = ⟨k, j, none⟩ := by unfold Addr.add; split <;> simp_all
    rw [e, blk_cell h]
    have hj4 : j < 4 := hj
    match j, hj4 with
    | 0, _ => rfl
    | 1, _ => rfl
    | 2, _ => rfl
    | 3, _ => rfl)
  exact this
theorem field_d (a b d : Value) (w : World) : (Instr.field 49 (.agg #[a, b, d]) 2).run Try.prog w = .ok d w := by kernel_rfl
theorem isM_two (w : World) (a b : Cm) : IsM (w.alloc (.cells #[.int .i64 a.c, .int .u32 a.g, .int .i64 b.c, .int .u32 b.g] 26)) (.slice (some ⟨w.heap.size, 0, none⟩) 2 2) [a, b] := by
  have h := World.alloc_heap_new w (.cells #[.int .i64 a.c, .int .u32 a.g, .int .i64 b.c, .int .u32 b.g] 26)
  refine ⟨some ⟨w.heap.size, 0, none⟩, 2, rfl, fun j hj => ⟨w.heap.size, rfl, ?_⟩⟩
  have hj2 : j < 2 := hj
  rw [blk_cell h, blk_cell h]
  match j, hj2 with
  | 0, _ => exact ⟨rfl, rfl⟩
  | 1, _ => exact ⟨rfl, rfl⟩
theorem row_isM {w : World} {base : Nat} {v : Value} {l : List Cm} (h : w.ownsRow base 26 2 v l.length (csM l)) : ∃ A cap, v = .slice A l.length cap := by
  obtain ⟨A, cap, e, _⟩ := IsM.of_row h
  exact ⟨A, cap, e⟩
set_option maxHeartbeats 2000000 in
theorem alive_any (w : World) : Calls Try.prog 27 #[] w fun e w' => e = .returned (.bool true) ∧ Below w.heap.size w w' := by
  obtain ⟨R, hR⟩ : ∃ R : Ending → World → Prop, R = fun e w' => e = .returned (.bool true) ∧ Below w.heap.size w w' := ⟨_, rfl⟩
  have HR : Hid (∀ w', Below w.heap.size w w' → R (.returned (.bool true)) w') := by rw [hR]; exact fun w' h => ⟨rfl, h⟩
  rw [← hR]
  clear hR
  have HS := Lib.hid (some_any w)
  go_enter Try.func27, Try.ntmps27
  go_wp2_with fail
  refine HS.out.mono ?_
  rintro e W1 ⟨rfl, h1, b1⟩
  have H1 : Hid (Calls Try.prog 9 #[.pointer (some ⟨w.heap.size, 0, none⟩), .int .i64 7, .int .u32 4] W1 fun x w' => x = .returned (.int .i64 150) ∧ CAt w' w.heap.size l2 ∧ Below w.heap.size w w') := by
    refine (take_lit h1 7 4 (e := 150) (l' := l2) (by omega) rfl rfl).mono ?_
    rintro e w' ⟨rfl, h2, k2⟩
    exact ⟨rfl, h2, b1.trans (k2.below (fun k h => by omega) b1.size)⟩
  clear h1 b1 HS
  go_wp2_with fail
  refine H1.out.mono ?_
  rintro e W2 ⟨rfl, h2, b2⟩
  have H2 := Lib.hid (all_any (.inr ⟨w.heap.size, rfl, h2⟩))
  have h2' := Lib.hid h2
  have HB2 := Lib.hid b2
  clear h2 b2 H1
  go_wp2_with fail
  refine H2.out.mono ?_
  rintro e W3 ⟨v, rfl, hr, b3⟩
  have hm := IsM.of_row hr
  obtain ⟨A, cap, rfl⟩ := row_isM hr
  have h3 := h2'.out.below b3
  have b3' := HB2.out.trans (b3.mono HB2.out.size)
  obtain ⟨o, ho⟩ : ∃ o : Obj, o = .cells #[.int .i64 2, .int .u32 300, .int .i64 7, .int .u32 3] 26 := ⟨_, rfl⟩
  have hn : IsM (W3.alloc o) (.slice (some ⟨W3.heap.size, 0, none⟩) 2 2) l2 := by rw [ho]; exact isM_two W3 ⟨2, 300⟩ ⟨7, 3⟩
  have H3 : Hid (Calls Try.prog 15 #[.slice A l2.length cap, .slice (some ⟨W3.heap.size, 0, none⟩) 2 2] (W3.alloc o) fun e w' => e = .returned (.bool true) ∧ CAt w' w.heap.size l2 ∧ Below w.heap.size w w') := by
    refine (rsame_any (hm.still (still_of (alloc_below W3 o))) hn (by decide)).mono ?_
    rintro e w' ⟨rfl, n, rfl⟩
    refine ⟨by simp, (h3.below (alloc_below W3 o)).below (bel_drewN (Below.refl _ _) n), b3'.trans (bel_drewN ((alloc_below W3 o).mono b3'.size) n)⟩
  rw [ho] at H3
  clear hr b3 hm h3 b3' ho hn H2 h2' HB2 o
  go_wp2_with fail
  refine H3.out.mono ?_
  rintro e W4 ⟨rfl, h4, b4⟩
  have H4 := Lib.hid (record_any (.inr ⟨w.heap.size, rfl, h4⟩) 2)
  have HB4 := Lib.hid b4
  clear h4 b4 H3
  go_wp2_with fail
  refine H4.out.mono ?_
  rintro e W5 ⟨d, rfl, hd, b5⟩
  obtain ⟨k, rfl, hk⟩ : ∃ k, d = .slice (some ⟨k, 0, none⟩) 4 4 ∧ W5.heap[k]? = some (.cells #[.int .u8 0, .int .u8 0, .int .u8 1, .int .u8 44] 5 (0, 0)) := hd
  have hcv := conv4 hk
  have hfd := fun w => field_d (.int .i64 2) (.int .i64 2) (.slice (some ⟨k, 0, none⟩) 4 4) w
  have HFn := Lib.hid (HR.out _ (HB4.out.trans (b5.mono HB4.out.size)))
  clear hk b5 H4 HB4
  go_wp2
  exact HFn.out
end Go.Proofs.Ytijhkjegpcmjoaa
