/-
  The document's Of and Record; lists and records that are the same.
-/
import Derived.Test.YtijhkjegpcmjoaaCm4
namespace Go.Proofs.Ytijhkjegpcmjoaa
set_option maxRecDepth 100000
set_option linter.unusedSimpArgs false
open Go Go.RowKit Cl

theorem csame_any {w : World} {va vb : Value} {la lb : List Cm} (ha : IsM w va la) (hb : IsM w vb lb) (h1 : la.length ≤ 100000) :
    Calls Try.prog 16 #[va, vb] w fun e w' => e = .returned (.bool (decide (la = lb))) ∧ ∃ n, w' = w.drewN n := by
  have HE := Lib.hid (equal_any ha hb h1)
  clear ha hb
  go_enter Try.func16, Try.ntmps16
  go_wp2_with fail
  refine HE.out.mono ?_
  rintro e W ⟨rfl, n, rfl⟩
  go_wp2
  first | exact ⟨rfl, n, rfl⟩ | (go_ret; exact ⟨rfl, n, rfl⟩)
/-- The bytes of a record as a text. -/
def txt (o : Option Int) : ByteArray := match o with
  | none => ⟨#[]⟩
  | some g => ⟨#[UInt8.ofNat (g / 16777216).toNat, UInt8.ofNat (g / 65536 % 256).toNat, UInt8.ofNat (g / 256 % 256).toNat, UInt8.ofNat (g % 256).toNat]⟩
theorem add0 (k j : Nat) : (⟨k, 0, none⟩ : Addr).add j = ⟨k, j, none⟩ := by unfold Addr.add; split <;> simp_all
theorem conv_d {w : World} {d : Value} {o : Option Int} (h : D4 w d o) (ho : ∀ g, o = some g → 0 ≤ g ∧ g < 4294967296) : (convert 47 9 d).run Try.prog w = .ok (.string (txt o)) w := by
  have h1 : Try.prog.underlying 47 = some (.slice 5) := by kernel_rfl
  have h2 : Try.prog.underlying 5 = some (.int .u8) := by kernel_rfl
  have h3 : Try.prog.underlying 9 = some .string := by kernel_rfl
  cases o with
  | none =>
    obtain rfl : d = .slice none 0 0 := h
    exact run_convert_bytes_nil w _ _ h1 h2 _ _ _ h3
  | some g =>
    obtain ⟨k, rfl, hk⟩ := h
    have hg := ho g rfl
    have hu : ∀ x : Int, 0 ≤ x → x < 256 → Value.int .u8 x = .int .u8 ((UInt8.ofNat x.toNat).toNat : Int) := by
      intro x h0 h1
      have e : ((UInt8.ofNat x.toNat).toNat : Int) = x := by simp; omega
      rw [e]
    have := run_convert_bytes_back w _ _ _ ⟨k, 0, none⟩ 4 [UInt8.ofNat (g / 16777216).toNat, UInt8.ofNat (g / 65536 % 256).toNat, UInt8.ofNat (g / 256 % 256).toNat, UInt8.ofNat (g % 256).toNat] h1 h2 h3 (by
      intro j hj
      rw [add0, blk_cell hk]
      have hj4 : j < 4 := hj
      match j, hj4 with
      | 0, _ => exact congrArg some (hu _ (by omega) (by omega))
      | 1, _ => exact congrArg some (hu _ (by omega) (by omega))
      | 2, _ => exact congrArg some (hu _ (by omega) (by omega))
      | 3, _ => exact congrArg some (hu _ (by omega) (by omega)))
    exact this
set_option maxHeartbeats 1000000 in
theorem same_rec {w : World} {d1 d2 : Value} {o : Option Int} (c : Int) (h1 : D4 w d1 o) (h2 : D4 w d2 o) (ho : ∀ g, o = some g → 0 ≤ g ∧ g < 4294967296) :
    Calls Try.prog 20 #[.agg #[.int .i64 2, .int .i64 c, d1], .agg #[.int .i64 2, .int .i64 c, d2]] w fun e w' => e = .returned (.bool true) ∧ Below w.heap.size w w' := by
  obtain ⟨P, hP⟩ : ∃ P : Ending → World → Prop, P = fun e w' => e = .returned (.bool true) ∧ Below w.heap.size w w' := ⟨_, rfl⟩
  have HP : Hid (∀ w', Below w.heap.size w w' → P (.returned (.bool true)) w') := by rw [hP]; exact fun w' h => ⟨rfl, h⟩
  rw [← hP]
  clear hP
  obtain ⟨o1, ho1⟩ : ∃ o1 : Obj, o1 = .cells #[.int .i64 2, .int .i64 c, d1] 49 := ⟨_, rfl⟩
  obtain ⟨o2, ho2⟩ : ∃ o2 : Obj, o2 = .cells #[.int .i64 2, .int .i64 c, d2] 49 := ⟨_, rfl⟩
  have hb : Below w.heap.size w ((w.alloc o1).alloc o2) := (alloc_below w o1).trans ((alloc_below (w.alloc o1) o2).mono (by simp))
  have HC : Hid (∀ V, Below w.heap.size w V → (convert 47 9 d1).run Try.prog V = .ok (.string (txt o)) V ∧ (convert 47 9 d2).run Try.prog V = .ok (.string (txt o)) V) := fun V hV => ⟨conv_d (h1.below hV) ho, conv_d (h2.below hV) ho⟩
  obtain ⟨z1, z2⟩ := HC.out _ hb
  have HF := Lib.hid (HP.out _ hb)
  rw [ho1, ho2] at z1 z2 HF
  clear h1 h2 ho hb HC HP ho1 ho2 o1 o2
  go_enter Try.func20, Try.ntmps20
  go_wp2
  first | exact HF.out | (go_ret; exact HF.out)
set_option maxHeartbeats 1000000 in
theorem rrecord_any {w : World} {b : Nat} {l : List Cm} (h : RfAt w b l) (hok : Okr l) (c : Int) :
    Calls Try.prog 22 #[.pointer (some ⟨b, 0, none⟩), .int .i64 c] w fun e w' => ∃ d, e = .returned (.agg #[.int .i64 2, .int .i64 c, d]) ∧ D4 w' d (genO l c) ∧ Below w.heap.size w w' := by
  obtain ⟨o1, ho1⟩ : ∃ o : Obj, o = .cells #[.int .i64 0, .int .i64 0, .slice none 0 0] 49 := ⟨_, rfl⟩
  obtain ⟨o2, ho2⟩ : ∃ o : Obj, o = .cells #[.int .i64 2, .int .i64 c, .slice none 0 0] 49 := ⟨_, rfl⟩
  have HC : Hid (Calls Try.prog 18 #[.pointer (some ⟨b, 0, none⟩), .int .i64 c] ((w.alloc o1).alloc o2) fun e w' => e = .returned (.tuple #[.int .u32 (genG l c), .bool (has l c)]) ∧ w'.heap[w.heap.size]? = some o1 ∧ w'.heap[w.heap.size + 1]? = some o2 ∧ Below w.heap.size w w') := by
    have h1 := World.alloc_heap_new w o1
    have h2 := World.alloc_heap_new (w.alloc o1) o2
    have h3 := (Below.heap_alloc (w.alloc o1) o2 w.heap.size (by simp)).trans h1
    have b2 : Below w.heap.size w ((w.alloc o1).alloc o2) := (alloc_below w o1).trans ((alloc_below (w.alloc o1) o2).mono (by simp))
    rw [World.size_alloc] at h2
    refine (rfind_any ((h.below (alloc_below w o1)).below (alloc_below (w.alloc o1) o2)) hok c).mono ?_
    rintro e w' ⟨rfl, hb⟩
    exact ⟨rfl, (hb.block _ (blk_lt h3)).trans h3, (hb.block _ (blk_lt h2)).trans h2, b2.trans (hb.mono b2.size)⟩
  rw [ho1, ho2] at HC
  clear h ho1 ho2 o1 o2
  unfold genO
  cases hh : has l c with
  | true =>
    have hgen := hok.gen _ (at_mem hh)
    have hG : genG l c = (at_ l c).g := by unfold genG; rw [if_pos hh]
    rw [hh, hG] at HC
    clear hG hok hh
    generalize (at_ l c).g = g at *
    go_enter Try.func22, Try.ntmps22
    go_wp2_with fail
    refine HC.out.mono ?_
    rintro e W1 ⟨rfl, z1, z2, hB⟩
    obtain ⟨o, ho⟩ : ∃ o : Obj, o = .cells #[.int .u8 (g / 16777216), .int .u8 (g / 65536 % 256), .int .u8 (g / 256 % 256), .int .u8 (g % 256)] 5 := ⟨_, rfl⟩
    have j1 := (Below.heap_alloc W1 o _ (blk_lt z1)).trans z1
    have j2 := (Below.heap_alloc W1 o _ (blk_lt z2)).trans z2
    have j3 := World.alloc_heap_new W1 o
    have hB3 := hB.trans ((alloc_below W1 o).mono hB.size)
    have hlt := blk_lt z2
    have x0 : (W1.alloc o).cell? ⟨w.heap.size, 0, none⟩ = some (.int .i64 0) := by rw [blk_cell j1]; rfl
    have x1 : (W1.alloc o).cell? ⟨w.heap.size, 1, none⟩ = some (.int .i64 0) := by rw [blk_cell j1]; rfl
    have x2 : (W1.alloc o).cell? ⟨w.heap.size, 2, none⟩ = some (.slice none 0 0) := by rw [blk_cell j1]; rfl
    have y0 : (W1.alloc o).cell? ⟨w.heap.size + 1, 0, none⟩ = some (.int .i64 2) := by rw [blk_cell j2]; rfl
    have y1 : (W1.alloc o).cell? ⟨w.heap.size + 1, 1, none⟩ = some (.int .i64 c) := by rw [blk_cell j2]; rfl
    have y2 : (W1.alloc o).cell? ⟨w.heap.size + 1, 2, none⟩ = some (.slice none 0 0) := by rw [blk_cell j2]; rfl
    have f0 := blk_free j1 0
    have f1 := blk_free j1 1
    have f2 := blk_free j1 2
    have f3 := blk_free j2 2
    have HJ : Hid ((W1.alloc o).heap[W1.heap.size]? = some (.cells #[.int .u8 (g / 16777216), .int .u8 (g / 65536 % 256), .int .u8 (g / 256 % 256), .int .u8 (g % 256)] 5 (0, 0))) := by rw [← ho]; exact j3
    have HB3 : Hid (Below w.heap.size w (W1.alloc o) ∧ w.heap.size + 1 < W1.heap.size) := ⟨hB3, hlt⟩
    rw [ho] at x0 x1 x2 y0 y1 y2 f0 f1 f2 f3 HJ HB3
    have HJ1 := Lib.hid j1
    rw [ho] at HJ1
    clear j1 j2 j3 hB3 hlt hB z1 z2 ho o HC
    go_wp2_with fail
    generalize W1.alloc (.cells #[.int .u8 (g / 16777216), .int .u8 (g / 65536 % 256), .int .u8 (g / 256 % 256), .int .u8 (g % 256)] 5) = W2 at *
    have e1 : (W2.setCell ⟨w.heap.size + 1, 2, none⟩ (.slice (some ⟨W1.heap.size, 0, none⟩) 4 4)).heap[w.heap.size]? = some (.cells #[.int .i64 0, .int .i64 0, .slice none 0 0] 49 (0, 0)) := by
      rw [Below.heap_setCell _ _ _ _ (by simp)]; exact HJ1.out
    have e2 := blk_set (blk_set (blk_set e1 0 (.int .i64 2)) 1 (.int .i64 c)) 2 (.slice (some ⟨W1.heap.size, 0, none⟩) 4 4)
    have g0 := (blk_cell e2 0).trans (show _ = some (Value.int .i64 2) from rfl)
    have g1 := (blk_cell e2 1).trans (show _ = some (Value.int .i64 c) from rfl)
    have g2 := (blk_cell e2 2).trans (show _ = some (Value.slice (some ⟨W1.heap.size, 0, none⟩) 4 4) from rfl)
    clear e1 e2 x0 x1 x2 y0 y1 y2 f0 f1 f2 f3
    refine bodyPost_ret (v := .agg #[.int .i64 2, .int .i64 c, .slice (some ⟨W1.heap.size, 0, none⟩) 4 4]) (by generalize (((W2.setCell ⟨w.heap.size + 1, 2, none⟩ (.slice (some ⟨W1.heap.size, 0, none⟩) 4 4)).setCell ⟨w.heap.size, 0, none⟩ (.int .i64 2)).setCell ⟨w.heap.size, 1, none⟩ (.int .i64 c)).setCell ⟨w.heap.size, 2, none⟩ (.slice (some ⟨W1.heap.size, 0, none⟩) 4 4) = W3 at g0 g1 g2 ⊢; simp [results, Try.results22, go_sem, g0, g1, g2]) rfl ⟨_, rfl, ⟨_, rfl, ?_⟩, ?_⟩
    · have hlt := HB3.out.2
      rw [Below.heap_setCell _ _ _ _ (by simp; omega), Below.heap_setCell _ _ _ _ (by simp; omega), Below.heap_setCell _ _ _ _ (by simp; omega), Below.heap_setCell _ _ _ _ (by simp; omega)]
      exact HJ.out
    · have k0 : Kept (fun _ => False) w W2 := Kept.of_below HB3.out.1 (Nat.le_refl _)
      exact ((((k0.setCell (p := ⟨w.heap.size + 1, 2, none⟩) (.inr (Nat.le_succ _)) _).setCell (p := ⟨w.heap.size, 0, none⟩) (.inr (Nat.le_refl _)) _).setCell (p := ⟨w.heap.size, 1, none⟩) (.inr (Nat.le_refl _)) _).setCell (p := ⟨w.heap.size, 2, none⟩) (.inr (Nat.le_refl _)) _).below (fun _ h => h.elim) (Nat.le_refl _)
  | false =>
    rw [hh] at HC
    clear hok hh
    generalize genG l c = g at *
    go_enter Try.func22, Try.ntmps22
    go_wp2_with fail
    refine HC.out.mono ?_
    rintro e W1 ⟨rfl, z1, z2, hB⟩
    have hlt := blk_lt z2
    have x0 : W1.cell? ⟨w.heap.size, 0, none⟩ = some (.int .i64 0) := by rw [blk_cell z1]; rfl
    have x1 : W1.cell? ⟨w.heap.size, 1, none⟩ = some (.int .i64 0) := by rw [blk_cell z1]; rfl
    have x2 : W1.cell? ⟨w.heap.size, 2, none⟩ = some (.slice none 0 0) := by rw [blk_cell z1]; rfl
    have y0 : W1.cell? ⟨w.heap.size + 1, 0, none⟩ = some (.int .i64 2) := by rw [blk_cell z2]; rfl
    have y1 : W1.cell? ⟨w.heap.size + 1, 1, none⟩ = some (.int .i64 c) := by rw [blk_cell z2]; rfl
    have y2 : W1.cell? ⟨w.heap.size + 1, 2, none⟩ = some (.slice none 0 0) := by rw [blk_cell z2]; rfl
    have f0 := blk_free z1 0
    have f1 := blk_free z1 1
    have f2 := blk_free z1 2
    have HB3 : Hid (Below w.heap.size w W1) := hB
    have HJ1 := Lib.hid z1
    clear hB z1 z2 hlt HC
    go_wp2_with fail
    have e2 := blk_set (blk_set (blk_set HJ1.out 0 (.int .i64 2)) 1 (.int .i64 c)) 2 (.slice none 0 0)
    have g0 := (blk_cell e2 0).trans (show _ = some (Value.int .i64 2) from rfl)
    have g1 := (blk_cell e2 1).trans (show _ = some (Value.int .i64 c) from rfl)
    have g2 := (blk_cell e2 2).trans (show _ = some (Value.slice none 0 0) from rfl)
    clear e2 x0 x1 x2 y0 y1 y2 f0 f1 f2
    refine bodyPost_ret (v := .agg #[.int .i64 2, .int .i64 c, .slice none 0 0]) (by generalize ((W1.setCell ⟨w.heap.size, 0, none⟩ (.int .i64 2)).setCell ⟨w.heap.size, 1, none⟩ (.int .i64 c)).setCell ⟨w.heap.size, 2, none⟩ (.slice none 0 0) = W3 at g0 g1 g2 ⊢; simp [results, Try.results22, go_sem, g0, g1, g2]) rfl ⟨_, rfl, rfl, ?_⟩
    have k0 : Kept (fun _ => False) w W1 := Kept.of_below HB3.out (Nat.le_refl _)
    exact (((k0.setCell (p := ⟨w.heap.size, 0, none⟩) (.inr (Nat.le_refl _)) _).setCell (p := ⟨w.heap.size, 1, none⟩) (.inr (Nat.le_refl _)) _).setCell (p := ⟨w.heap.size, 2, none⟩) (.inr (Nat.le_refl _)) _).below (fun _ h => h.elim) (Nat.le_refl _)


set_option maxHeartbeats 4000000 in
theorem rof_any {w : World} {b : Nat} {s : List Cm} (h : RfAt w b s) (hs : Ok s) {hm r : Int} (hr1 : 1 ≤ r) (hr2 : r ≤ 9223372036854775807) :
    Calls Try.prog 14 #[.pointer (some ⟨b, 0, none⟩), .int .i64 hm, .int .i64 r] w (CmP w (ofL s hm r)) := by
  obtain ⟨i0, hi, hz0, hz1, hz2⟩ := info_parts Try.infoCm3
  obtain ⟨Q, hQ⟩ : ∃ Q : Ending → World → Prop, Q = CmP w (ofL s hm r) := ⟨_, rfl⟩
  have HA := Lib.hid (rall_any h hs.okr (by have := hs.len; omega))
  have hl16 := hs.len
  have HCel : Hid (∀ j, j < s.length → 0 ≤ (s.getD j c0).c ∧ (s.getD j c0).c < 1024) := fun j hj => hs.cel _ (getD_mem hj)
  have HFT : Hid (∀ j, j < s.length → (s.take (j + 1)).filter (hmF hm r) = (s.take j).filter (hmF hm r) ++ (if hmF hm r (s.getD j c0) then [s.getD j c0] else [])) := fun j hj => filter_take hj
  have HFl : Hid (∀ j, ((s.take j).filter (hmF hm r)).length ≤ 16) := fun j => by
    have := List.length_filter_le (hmF hm r) (s.take j)
    have := List.length_take_le' j s
    omega
  have HFe : Hid (∀ l, l = (s.take s.length).filter (hmF hm r) → l = ofL s hm r) := fun l e => by rw [e, List.take_length]; rfl
  have d9 : decide ((0 : Int) < r) = true := by simp; omega
  have r9 : ¬ r = 0 := by omega
  have r8 : (r == 0) = false := by simp; omega
  rw [← hQ]
  clear h hs
  go_enter Try.func14, Try.ntmps14
  go_wp2_with fail
  refine HA.out.mono ?_
  rintro e W1 ⟨v1, rfl, hr, hb⟩
  have hI := IsM.of_row hr
  obtain ⟨A, cap, rfl⟩ := row_isM hr
  have HI : Hid (∀ V, Below W1.heap.size W1 V → ∀ j, j < s.length → ∃ g, A = some ⟨g, 0, none⟩ ∧ V.cell? ⟨g, j * 2, none⟩ = some (.int .i64 (s.getD j c0).c) ∧ V.cell? ⟨g, j * 2 + 1, none⟩ = some (.int .u32 (s.getD j c0).g)) := by
    intro V hV j hj
    obtain ⟨a9, c9, e9, h9⟩ := hI.still (still_of hV)
    cases e9
    exact h9 j hj
  have HQ : Hid (∀ v w', w'.ownsRow W1.heap.size 26 2 v (ofL s hm r).length (csM (ofL s hm r)) → Below W1.heap.size W1 w' → Q (.returned v) w') := by
    rw [hQ]
    intro v w' h1 h2
    have hsz := hb.size
    refine ⟨v, rfl, ⟨h1.1, ?_⟩, hb.trans (h2.mono hsz)⟩
    rcases h1.2 with h | ⟨g', cap, cur, e1, e2, e3⟩
    · exact .inl h
    · exact .inr ⟨g', cap, cur, e1, by omega, e3⟩
  have H0 : Hid (W1.ownsRow W1.heap.size 26 2 (.slice none 0 0) ([] : List Cm).length (csM [])) := World.ownsRow_nil _ _ _ _
  clear hr hb hI hQ HA
  obtain ⟨N, hN⟩ : ∃ N, N = s.length := ⟨_, rfl⟩
  rw [← hN] at hl16 HCel HFT HI HFe ⊢
  clear hN
  go_wp2_with fail
  go_loopw [9, 7] (fun u v wr => ∃ (j : Nat) (l : List Cm), j ≤ N ∧ u = .int .i64 (j : Int) ∧ l = (s.take j).filter (hmF hm r) ∧ wr.ownsRow W1.heap.size 26 2 v l.length (csM l) ∧ Below W1.heap.size W1 wr) (fun u _ _ => N - (intOf u).toNat)
  case atStart => exact ⟨0, [], Nat.zero_le _, rfl, by simp, H0.out, Below.refl _ _⟩
  case round =>
    rename World => V
    obtain ⟨j, l, hj, rfl, hl, hr, hB⟩ := hrel
    have HL := Lib.hid hl
    by_cases hlt : j < N
    · have d0 : decide ((j : Int) < (N : Int)) = true := by simp; omega
      have n0 : (0 : Int) ≤ (j : Int) := by omega
      have n1 : (j : Int) < (N : Int) := by omega
      have ew : IntKind.i64.wrap ((j : Int) + 1) = (j : Int) + 1 := IntWalk.i64_in _ (by omega)
      obtain ⟨g, rfl, z0, z1⟩ := HI.out V hB j hlt
      have hcel := HCel.out j hlt
      have hft := HFT.out j hlt
      have hl9 := HFl.out j
      rw [← hl] at hft hl9
      generalize hx : s.getD j c0 = x at *
      obtain ⟨xc, xg⟩ := x
      simp only at z0 z1 hcel
      by_cases hh : xc % r = hm
      · have d1 : (xc % r == hm) = true := by simp [hh]
        rw [if_pos (by simpa [hmF] using hh)] at hft
        obtain ⟨v', W3, hrun, ho, hgr, _, _⟩ := run_append_own_at (P := Try.prog) (V.alloc (.cells #[.int .i64 xc, .int .u32 xg] 26)) W1.heap.size 42 42 26 i0 _ 2 16 Try.underlying42 hi hz0 hz1 hz2 rfl (by decide) u7 l.length (csM l) (hr.alloc _) ⟨V.heap.size, 0, none⟩ 1 1 [.int .i64 xc, .int .u32 xg] rfl (World.news_of_block (cs := #[.int .i64 xc, .int .u32 xg]) (World.alloc_heap_new V _)) (by intro u hu; simp at hu; rcases hu with rfl | rfl <;> rfl) (by unfold maxLen; omega) (by omega) (by have := hB.size; simp; omega)
        have HF : Hid (W3.ownsRow W1.heap.size 26 2 v' (l ++ [(⟨xc, xg⟩ : Cm)]).length (csM (l ++ [⟨xc, xg⟩])) ∧ Below W1.heap.size W1 W3) := by
          rw [Hid, List.length_append, List.length_singleton, csM_append]
          exact ⟨ho, (hB.trans ((alloc_below V _).mono hB.size)).grown hgr (by have := hB.size; simp; omega) (fun k hk => (hr.lt k hk).1)⟩
        clear hx hr hB ho hgr hl
        go_wp2_with (at_builtin; refine wpList_run rfl (.tmp 31) (.tmp 36) 42 rfl (by simp [Act.eval]) (by simp [Act.eval]) hrun ?_)
        go_roundw
        case rel => exact ⟨j + 1, l ++ [⟨xc, xg⟩], by omega, by push_cast; rfl, hft.symm, HF.out⟩
        case measure => simp [intOf]; omega
      · have d1 : (xc % r == hm) = false := by simp [hh]
        rw [if_neg (by simpa [hmF] using hh), List.append_nil] at hft
        have HF : Hid (V.ownsRow W1.heap.size 26 2 u7 l.length (csM l) ∧ Below W1.heap.size W1 V) := ⟨hr, hB⟩
        clear hr hB hx hl
        go_wp2
        go_roundw
        case rel => exact ⟨j + 1, l, by omega, by push_cast; rfl, hft.symm, HF.out⟩
        case measure => simp [intOf]; omega
    · obtain rfl : j = N := by omega
      have d0 : decide ((j : Int) < (j : Int)) = false := by simp
      have e := HFe.out l hl
      subst e
      have HF := Lib.hid (HQ.out _ V hr hB)
      clear hr hB
      go_wp2
      first | exact HF.out | (go_ret; exact HF.out)
end Go.Proofs.Ytijhkjegpcmjoaa
