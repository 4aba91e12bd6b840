/-
  deny, grant of what is done; record, turn.
-/
import Derived.Test.YtlmbbnkdiokabaaDoorLg3
namespace Go.Proofs.YtlmbbnkdiokabaaDoor
set_option maxRecDepth 100000
set_option linter.unusedSimpArgs false
open Go Go.RowKit Sp Lg

theorem keptB {w w' : World} (h : Below w.heap.size w w') : Kept (fun _ => False) w w' := Kept.of_below h (Nat.le_refl _)
section
variable {w : World} {B o : Nat} {v : OV} {ws : List We} {ps : List Pe} {bs : List Nat}
theorem OutS.of_below {W w' : World} {ws2 : List We} {ps2 : List Pe} {bs2 : List Nat} (hb : Below w.heap.size w W) (h : OutS W w' B o v ws2 ps2 bs2) : OutS w w' B o v ws2 ps2 bs2 := by
  obtain ⟨v2, h3, h4, h5⟩ := h
  refine ⟨v2, h3, ((keptB hb).mono (fun _ _ h => h.elim)).trans h4 (fun _ _ h => h), fun k hk => ?_⟩
  rcases h5 k hk with e | e
  · exact .inl e
  · right; have := hb.size; omega
theorem deny_any (h : OutAt w B o v ws ps bs) (hB : B ≤ w.heap.size) (c : Int) (y : Wt) (q : Int) (hp : ps.length ≤ 1000000) (hb : bs.length ≤ 1000000) :
    Calls Tryd.prog 61 #[.pointer (some ⟨o, 0, none⟩), .int .i64 c, wv y, .int .i64 q] w fun e w' => e = .returned (.tuple #[]) ∧ OutS w w' B o v ws (ps ++ [⟨y.r, ⟨5, c, 0, y.s, 0, q⟩⟩]) (bs ++ [ws.length]) := by
  have HP : Hid (∀ W, Below w.heap.size w W → Calls Tryd.prog 60 #[.pointer (some ⟨o, 0, none⟩), .int .i64 y.r, mgv 5 c 0 y.s 0 q] W fun e w' => e = .returned (.tuple #[]) ∧ OutS w w' B o v ws (ps ++ [⟨y.r, ⟨5, c, 0, y.s, 0, q⟩⟩]) (bs ++ [ws.length])) := by
    intro W hW
    refine (post_any (h.below hW) (Nat.le_trans hB hW.size) ⟨y.r, ⟨5, c, 0, y.s, 0, q⟩⟩ hp hb).mono ?_
    rintro e w' ⟨rfl, h2⟩
    exact ⟨rfl, OutS.of_below hW h2⟩
  obtain ⟨x0, x1, x2⟩ := y
  simp only [wv] at *
  have HP2 := Lib.hid (HP.out _ (alloc_below w (.cells #[.int .i64 x0, .int .u64 x1, .int .i64 x2] 71)))
  clear h HP
  go_enter Tryd.func61, Tryd.ntmps61
  go_wp2_with fail
  refine HP2.out.mono ?_
  rintro e W ⟨rfl, h2⟩
  have HZ := Lib.hid h2
  clear h2
  go_wp2
  go_end0
  exact ⟨rfl, HZ.out⟩
theorem grantO_any (h : OutAt w B o v ws ps bs) (hB : B ≤ w.heap.size) (c r g a : Int) (hp : ps.length ≤ 1000000) (hb : bs.length ≤ 1000000) :
    Calls Tryd.prog 42 #[.pointer (some ⟨o, 0, none⟩), .int .i64 c, ev r g, .int .u64 a] w fun e w' => e = .returned (.tuple #[]) ∧ OutS w w' B o v ws (ps ++ [⟨r, ⟨2, c, g, a, 0, 0⟩⟩]) (bs ++ [ws.length]) := by
  have HP : Hid (∀ W, Below w.heap.size w W → Calls Tryd.prog 60 #[.pointer (some ⟨o, 0, none⟩), .int .i64 r, mgv 2 c g a 0 0] W fun e w' => e = .returned (.tuple #[]) ∧ OutS w w' B o v ws (ps ++ [⟨r, ⟨2, c, g, a, 0, 0⟩⟩]) (bs ++ [ws.length])) := by
    intro W hW
    refine (post_any (h.below hW) (Nat.le_trans hB hW.size) ⟨r, ⟨2, c, g, a, 0, 0⟩⟩ hp hb).mono ?_
    rintro e w' ⟨rfl, h2⟩
    exact ⟨rfl, OutS.of_below hW h2⟩
  have HP2 := Lib.hid (HP.out _ (alloc_below w (.cells #[.int .i64 r, .int .u32 g] 81)))
  clear h HP
  go_enter Tryd.func42, Tryd.ntmps42
  go_wp2_with fail
  refine HP2.out.mono ?_
  rintro e W ⟨rfl, h2⟩
  have HZ := Lib.hid h2
  clear h2
  go_wp2
  go_end0
  exact ⟨rfl, HZ.out⟩
end

/-- A record as a value. -/
@[reducible] def rcv (c : Int) (d : Value) : Value := .agg #[.int .i64 3, .int .i64 c, d]
/-- What a call leaves that tells the record of an entry. -/
def RecR (w' : World) (c : Int) (en : En) (e : Ending) : Prop := ∃ A n k, e = .returned (rcv c (.slice A n k)) ∧ R8 w' (.slice A n k) (recB en)
theorem heap2 (w : World) (A B : Obj) : ((w.alloc A).alloc B).heap[w.heap.size + 1]? = some B := by
  have := World.alloc_heap_new (w.alloc A) B
  rwa [World.size_alloc] at this
theorem heap_up {V : World} {o x : Obj} {k : Nat} (h : V.heap[k]? = some x) : (V.alloc o).heap[k]? = some x := (Below.heap_alloc _ _ _ (blk_lt h)).trans h
set_option maxHeartbeats 1000000 in
theorem record_any {w : World} (h : AF w) (c r g : Int) (hg : 0 ≤ g ∧ g ≤ 4294967295) :
    Calls Tryd.prog 52 #[.int .i64 c, ev r g] w fun e w' => RecR w' c ⟨r, g⟩ e ∧ Below w.heap.size w w' := by
  obtain ⟨R, hR⟩ : ∃ R : Ending → World → Prop, R = fun e w' => RecR w' c ⟨r, g⟩ e ∧ Below w.heap.size w w' := ⟨_, rfl⟩
  have HR : Hid (∀ w' A n k, Below w.heap.size w w' → R8 w' (.slice A n k) (recB ⟨r, g⟩) → R (.returned (rcv c (.slice A n k))) w') := by
    rw [hR]; exact fun w' A n k h1 h2 => ⟨⟨A, n, k, rfl, h2⟩, h1⟩
  rw [← hR]
  clear hR
  have hlt := h.lt
  have a0 := h.1
  have a1 := h.2
  have hb3 : ∀ t1 t2 t3 o1 o2 o3, Below w.heap.size w (((w.alloc (.cells o1 t1)).alloc (.cells o2 t2)).alloc (.cells o3 t3)) := fun t1 t2 t3 o1 o2 o3 => (alloc_below w _).trans (((alloc_below _ _).mono (by simp)).trans ((alloc_below _ _).mono (by simp; omega)))
  have g0 : ∀ t1 t2 t3 o1 o2 o3, (((w.alloc (.cells o1 t1)).alloc (.cells o2 t2)).alloc (.cells o3 t3)).cell? ⟨0, 0, none⟩ = some (.int .i64 (-1)) := fun t1 t2 t3 o1 o2 o3 => (keptB (hb3 t1 t2 t3 o1 o2 o3)).cell a0 id
  have g1 : ∀ t1 t2 t3 o1 o2 o3, (((w.alloc (.cells o1 t1)).alloc (.cells o2 t2)).alloc (.cells o3 t3)).cell? ⟨0, 1, none⟩ = some (.int .u32 0) := fun t1 t2 t3 o1 o2 o3 => (keptB (hb3 t1 t2 t3 o1 o2 o3)).cell a1 id
  have q81 := eqEn
  cases e1 : (r == -1 && g == 0)
  · have hne : (⟨r, g⟩ : En) ≠ e0 := by
      intro e
      have e2 : r = -1 := congrArg En.r e
      have e3 : g = 0 := congrArg En.g e
      rw [e2, e3] at e1
      exact absurd e1 (by decide)
    rw [show recB ⟨r, g⟩ = [r % 256, g / 16777216, g / 65536 % 256, g / 256 % 256, g % 256] by unfold recB; rw [if_neg hne]] at HR
    go_enter Tryd.func52, Tryd.ntmps52
    go_wp2
    obtain ⟨o1, ho1⟩ : ∃ o1 : Obj, o1 = .cells #[.int .i64 r, .int .u32 g] 81 := ⟨_, rfl⟩
    obtain ⟨d, hd⟩ : ∃ d : Value, d = .slice (some ⟨w.heap.size + 1 + 1 + 1, 0, none⟩) 5 5 := ⟨_, rfl⟩
    obtain ⟨o4, ho4⟩ : ∃ o4 : Obj, o4 = .cells #[.int .u8 (r % 256), .int .u8 (g / 16777216), .int .u8 (g / 65536 % 256), .int .u8 (g / 256 % 256), .int .u8 (g % 256)] 5 := ⟨_, rfl⟩
    rw [← hd, ← ho1, ← ho4]
    have b1 : ((((w.alloc o1).alloc (.cells #[.int .i64 3, .int .i64 c, d] 54)).alloc (.cells #[.int .i64 3, .int .i64 c, d] 54)).alloc o4).heap[w.heap.size + 1]? = some (.cells #[.int .i64 3, .int .i64 c, d] 54 (0, 0)) := heap_up (heap_up (heap2 _ _ _))
    have b4 : ((((w.alloc o1).alloc (.cells #[.int .i64 3, .int .i64 c, d] 54)).alloc (.cells #[.int .i64 3, .int .i64 c, d] 54)).alloc o4).heap[w.heap.size + 1 + 1 + 1]? = some o4 := by
      have := World.alloc_heap_new (((w.alloc o1).alloc (.cells #[.int .i64 3, .int .i64 c, d] 54)).alloc (.cells #[.int .i64 3, .int .i64 c, d] 54)) o4
      rwa [World.size_alloc, World.size_alloc, World.size_alloc] at this
    have hbw : Below w.heap.size w ((((w.alloc o1).alloc (.cells #[.int .i64 3, .int .i64 c, d] 54)).alloc (.cells #[.int .i64 3, .int .i64 c, d] 54)).alloc o4) := by
      rw [ho1]
      exact (hb3 _ _ _ _ _ _).trans ((alloc_below _ _).mono (by simp; omega))
    have g0 := blk_cell b1 0
    have g1 := blk_cell b1 1
    have g2 := blk_cell b1 2
    subst hd
    subst ho4
    have hrow : R8 _ _ [r % 256, g / 16777216, g / 65536 % 256, g / 256 % 256, g % 256] := row_of_block b4 (Nat.zero_le _) rfl (by simp [maxLen])
    have HF := Lib.hid (HR.out _ _ _ _ hbw hrow)
    refine bodyPost_ret (v := rcv c (.slice (some ⟨w.heap.size + 1 + 1 + 1, 0, none⟩) 5 5)) (by simp [results, Tryd.results52, go_sem, g0, g1, g2]) rfl HF.out
  · have he : (⟨r, g⟩ : En) = e0 := by
      simp only [Bool.and_eq_true, beq_iff_eq] at e1
      rw [e1.1, e1.2]; rfl
    rw [he, show recB e0 = [] from rfl] at HR
    go_enter Tryd.func52, Tryd.ntmps52
    go_wp2
    obtain ⟨o1, ho1⟩ : ∃ o1 : Obj, o1 = .cells #[.int .i64 r, .int .u32 g] 81 := ⟨_, rfl⟩
    rw [← ho1]
    have b1 : (((w.alloc o1).alloc (.cells #[.int .i64 3, .int .i64 c, .slice none 0 0] 54)).alloc (.cells #[.int .i64 3, .int .i64 c, .slice none 0 0] 54)).heap[w.heap.size + 1]? = some (.cells #[.int .i64 3, .int .i64 c, .slice none 0 0] 54 (0, 0)) := heap_up (heap2 _ _ _)
    have hbw : Below w.heap.size w (((w.alloc o1).alloc (.cells #[.int .i64 3, .int .i64 c, .slice none 0 0] 54)).alloc (.cells #[.int .i64 3, .int .i64 c, .slice none 0 0] 54)) := by
      rw [ho1]
      exact hb3 _ _ _ _ _ _
    have g0 := blk_cell b1 0
    have g1 := blk_cell b1 1
    have g2 := blk_cell b1 2
    refine bodyPost_ret (v := rcv c (.slice none 0 0)) (by simp [results, Tryd.results52, go_sem, g0, g1, g2]) rfl (HR.out _ _ _ _ hbw (R8.nil _))
end Go.Proofs.YtlmbbnkdiokabaaDoor
