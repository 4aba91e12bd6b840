/-
  The document's bag: Deliver, Drop.
-/
import Derived.Test.YtinihggcibghaaaBl3
namespace Go.Proofs.Ytinihggcibghaaa
set_option maxRecDepth 100000
set_option linter.unusedSimpArgs false
open Go Go.RowKit Bg
attribute [local go_sem] Oper.semAt_some

theorem sets5 {w2 W9 : World} {R : Nat} {a b c d e : Value} (h : w2.heap[R]? = some (.cells #[.int .i64 0, .int .i64 0, .int .i64 0, .slice none 0 0, .bool false] 38 (0, 0))) (hW : W9 = (((((w2.setCell ⟨R, 0, none⟩ a).setCell ⟨R, 1, none⟩ b).setCell ⟨R, 2, none⟩ c).setCell ⟨R, 3, none⟩ d).setCell ⟨R, 4, none⟩ e)) :
    W9.heap[R]? = some (.cells #[a, b, c, d, e] 38 (0, 0)) ∧ Kept (fun k => k = R) w2 W9 := by
  refine ⟨?_, ?_⟩
  · rw [hW, blk_set (blk_set (blk_set (blk_set (blk_set h 0 _) 1 _) 2 _) 3 _) 4 _]; rfl
  · rw [hW]
    exact (((((Kept.refl (fun k => k = R) w2).setCell (p := ⟨R, 0, none⟩) (.inl rfl) _).setCell (p := ⟨R, 1, none⟩) (.inl rfl) _).setCell (p := ⟨R, 2, none⟩) (.inl rfl) _).setCell (p := ⟨R, 3, none⟩) (.inl rfl) _).setCell (p := ⟨R, 4, none⟩) (.inl rfl) _

/-- Beside a step a block of the call's own turns. -/
theorem StepTo.beside {t : TypeId} {w0 w w1 w2 : World} {S : Nat → Prop} {o R : Nat} {b : St} (h : StepTo t w S o b w1) (h0 : Kept S w0 w) (hR : R < w.heap.size) (hR0 : w0.heap.size ≤ R) (hS : ¬ S R) (hk : Kept (fun k => k = R) w1 w2) : StepTo t w0 S o b w2 := by
  obtain ⟨k1, S', k2, k3, k4⟩ := h
  refine ⟨(h0.trans k1 (fun _ _ h => h)).trans hk (fun i hi e => by omega), S', k2.kept hk (fun i hi e => ?_), k3, fun k hk => (k4 k hk).imp id (fun h => Nat.le_trans h0.size h)⟩
  subst e
  rcases k4 _ hi with h | h
  · exact hS h
  · omega

/-- What the document's Deliver answers. -/
def RDelP (w : World) (S : Nat → Prop) (o : Nat) (b' : St) (x : Fl × Int) (e : Ending) (w' : World) : Prop := ∃ A cap, e = .returned (.tuple #[flA x.1 (.slice A x.1.d.length cap), .int .i64 x.2]) ∧ BytesAt w' A x.1.d ∧ StepTo 32 w S o b' w'

set_option maxHeartbeats 4000000 in
theorem rdeliver_any {w : World} {S : Nat → Prop} {o k : Nat} {b : St} (h : BagAt 32 w S o b) (hb : Bd k b) (hk : k ≤ 900000) (n : Int) :
    Calls Try.prog 35 #[.pointer (some ⟨o, 0, none⟩), .int .i64 n] w (RDelP w S o (delS b n) (delX b n)) := by
  have hl := hb.len
  have hd := hb.del
  have how := h.lt o h.so
  have HP : Hid (∀ x, Calls Try.prog 13 #[.pointer (some ⟨o, 0, none⟩), .int .i64 n] (w.alloc x) fun e w' => e = .returned (.int .i64 (rfV b n)) ∧ w.alloc x = w') := fun x => rfind_any (h.alloc x) hl n
  cases hn : idx b.l n with
  | none =>
    have e1 : delX b n = (noFl, 80) := by rw [delX, hn]
    have e2 : delS b n = b := by rw [delS, hn]
    have e3 : rfV b n = -1 := by rw [rfV, hn]
    rw [e1, e2]
    rw [e3] at HP
    have HF : Hid (∀ w', Below w.heap.size w w' → StepTo 32 w S o b w') := fun w' hw' => StepTo.still h hw'
    clear h hb e1 e2 e3
    go_enter Try.func35, Try.ntmps35
    go_wp2_with fail
    refine (HP.out _).mono ?_
    rintro e w1 ⟨rfl, rfl⟩
    go_wp2
    refine bodyPost_ret (v := .tuple #[.agg #[.int .i64 0, .int .i64 0, .int .i64 0, .slice none 0 0, .bool false], .int .i64 80]) (by simp [results, Try.results35, go_sem]) rfl ⟨none, 0, rfl, fun j hj => (by simp [noFl] at hj), HF.out _ ?_⟩
    first | exact (Below.refl _ w).alloc (Nat.le_refl _) _ | (iterate 5 refine Below.setCell ?_ (by simp) _); exact (Below.refl _ w).alloc (Nat.le_refl _) _
  | some i =>
    have hi := (idx_some hn).1
    have e1 : delX b n = (b.l.getD i noFl, 0) := by rw [delX, hn]
    have e2 : delS b n = { b with l := b.l.eraseIdx i, c := { b.c with del := b.c.del + 1 } } := by rw [delS, hn]
    have e3 : rfV b n = (i : Int) := by rw [rfV, hn]
    rw [e1, e2]
    rw [e3] at HP
    obtain ⟨P, hP⟩ : ∃ P : Ending → World → Prop, P = RDelP w S o { b with l := b.l.eraseIdx i, c := { b.c with del := b.c.del + 1 } } (b.l.getD i noFl, 0) := ⟨_, rfl⟩
    have HC : Hid (∀ u : Int, u = (b.c.del : Int) + 1 → Calls Try.prog 47 #[.pointer (some ⟨o, 0, none⟩), .int .i64 (i : Nat)] ((w.setCell ⟨o, 3, none⟩ (.int .i64 u)).alloc zFl) fun e w2 => ∃ A cap, e = .returned (flA (b.l.getD i noFl) (.slice A (b.l.getD i noFl).d.length cap)) ∧ w2.heap[w.heap.size]? = some zFl ∧
        ∀ W9, W9 = (((((w2.setCell ⟨w.heap.size, 0, none⟩ (.int .i64 (b.l.getD i noFl).n)).setCell ⟨w.heap.size, 1, none⟩ (.int .i64 (b.l.getD i noFl).f)).setCell ⟨w.heap.size, 2, none⟩ (.int .i64 (b.l.getD i noFl).t)).setCell ⟨w.heap.size, 3, none⟩ (.slice A (b.l.getD i noFl).d.length cap)).setCell ⟨w.heap.size, 4, none⟩ (.bool (b.l.getD i noFl).s)) →
          P (.returned (.tuple #[flA (b.l.getD i noFl) (.slice A (b.l.getD i noFl).d.length cap), .int .i64 0])) W9) := fun u hu => by
      have h2 := BagAt.set (b' := { b with c := { b.c with del := b.c.del + 1 } }) h 3 (.int .i64 u) rfl (fun v => by rw [hu]; simp)
      have h3 := h2.alloc zFl
      refine (rcut_any h3 hl hi).mono ?_
      rintro e w2 ⟨⟨A, cap, rfl, hA, hAS⟩, hst⟩
      have hz : w2.heap[w.heap.size]? = some zFl := by
        have h9 := World.alloc_heap_new (w.setCell ⟨o, 3, none⟩ (.int .i64 u)) zFl
        rw [World.size_setCell] at h9
        exact (hst.1.block _ (by simp) (fun hs => by have := h.lt _ hs; omega)).trans h9
      refine ⟨A, cap, rfl, hz, fun W9 hW9 => ?_⟩
      obtain ⟨hR, hk9⟩ := sets5 hz hW9
      rw [hP]
      refine ⟨A, cap, rfl, hA.kept hk9 (fun a ha e => ?_), ?_⟩
      · have := h.lt _ (hAS a ha)
        omega
      · exact hst.beside ((setS h.so 3 _).alloc _) (by simp) (Nat.le_refl _) (fun hs => by have := h.lt _ hs; omega) hk9
    rw [← hP]
    clear hP
    obtain ⟨A0, cap0, _, ⟨_, _, _, c2, _⟩, c3⟩ := h.cells
    have c4 := c3 3
    clear c3 h hb e1 e2 e3 hn
    generalize b.l.getD i noFl = x at *
    generalize b.c.del = L at *
    obtain ⟨n1, f1, t1, d1, s1⟩ := x
    simp only [flA] at *
    generalize d1.length = L1 at *
    have i0 : ¬ (i : Int) < 0 := by omega
    have c5 := cell_a1 c2
    go_enter Try.func35, Try.ntmps35
    go_wp2_with fail
    refine (HP.out _).mono ?_
    rintro e w1 ⟨rfl, rfl⟩
    go_wp2_with fail
    refine (HC.out _ rfl).mono ?_
    rintro e w2 ⟨A, cap, rfl, hz, h9⟩
    obtain ⟨_, f0, f1', f2, f3, f4⟩ := five hz
    have HZ := Lib.hid hz
    have H9 := Lib.hid h9
    clear hz h9 c2 c4 c5
    go_wp2
    obtain ⟨W9, hW9⟩ : ∃ W9, W9 = (((((w2.setCell ⟨w.heap.size, 0, none⟩ (.int .i64 n1)).setCell ⟨w.heap.size, 1, none⟩ (.int .i64 f1)).setCell ⟨w.heap.size, 2, none⟩ (.int .i64 t1)).setCell ⟨w.heap.size, 3, none⟩ (.slice A L1 cap)).setCell ⟨w.heap.size, 4, none⟩ (.bool s1)) := ⟨_, rfl⟩
    rw [← hW9]
    obtain ⟨hR, _⟩ := sets5 HZ.out hW9
    obtain ⟨⟨z0, z1, z2, z3, z4⟩, _⟩ := five hR
    exact bodyPost_ret (v := .tuple #[.agg #[.int .i64 n1, .int .i64 f1, .int .i64 t1, .slice A L1 cap, .bool s1], .int .i64 0]) (by simp [results, Try.results35, go_sem, z0, z1, z2, z3, z4]) rfl (H9.out _ hW9)

set_option maxHeartbeats 4000000 in
theorem rdrop_any {w : World} {S : Nat → Prop} {o k : Nat} {b : St} (h : BagAt 32 w S o b) (hb : Bd k b) (hk : k ≤ 900000) (n : Int) :
    Calls Try.prog 36 #[.pointer (some ⟨o, 0, none⟩), .int .i64 n] w fun e w' => e = .returned (.int .i64 (errV b n)) ∧ StepTo 32 w S o (dropS b n) w' := by
  have hl := hb.len
  have hd := hb.drp
  have how := h.lt o h.so
  have HP := Lib.hid (rfind_any h hl n)
  cases hn : idx b.l n with
  | none =>
    have e1 : errV b n = 80 := by rw [errV, hn]
    have e2 : dropS b n = b := by rw [dropS, hn]
    have e3 : rfV b n = -1 := by rw [rfV, hn]
    rw [e1, e2]
    rw [e3] at HP
    have HF := Lib.hid (StepTo.still h (Below.refl _ w))
    clear h hb e1 e2 e3
    go_enter Try.func36, Try.ntmps36
    go_wp2_with fail
    refine HP.out.mono ?_
    rintro e w1 ⟨rfl, rfl⟩
    go_wp2
    go_ret
    exact ⟨rfl, HF.out⟩
  | some i =>
    have hi := (idx_some hn).1
    have e1 : errV b n = 0 := by rw [errV, hn]
    have e2 : dropS b n = { b with l := b.l.eraseIdx i, c := { b.c with drp := b.c.drp + 1 } } := by rw [dropS, hn]
    have e3 : rfV b n = (i : Int) := by rw [rfV, hn]
    rw [e1, e2]
    rw [e3] at HP
    have HC : Hid (∀ u : Int, u = (b.c.drp : Int) + 1 → Calls Try.prog 47 #[.pointer (some ⟨o, 0, none⟩), .int .i64 (i : Nat)] (w.setCell ⟨o, 4, none⟩ (.int .i64 u)) fun e w2 => (∃ v, e = .returned v) ∧ StepTo 32 w S o { b with l := b.l.eraseIdx i, c := { b.c with drp := b.c.drp + 1 } } w2) := fun u hu => by
      have h2 := BagAt.set (b' := { b with c := { b.c with drp := b.c.drp + 1 } }) h 4 (.int .i64 u) rfl (fun v => by rw [hu]; simp)
      refine (rcut_any h2 hl hi).mono ?_
      rintro e w2 ⟨⟨A, cap, rfl, hA, hAS⟩, hst⟩
      exact ⟨⟨_, rfl⟩, hst.from (setS h.so 4 _)⟩
    obtain ⟨A0, cap0, _, ⟨_, _, _, _, c2, _⟩, c3⟩ := h.cells
    have c4 := c3 4
    clear c3 h hb e1 e2 e3 hn
    have i0 : ¬ (i : Int) < 0 := by omega
    generalize b.c.drp = L at *
    go_enter Try.func36, Try.ntmps36
    go_wp2_with fail
    refine HP.out.mono ?_
    rintro e w1 ⟨rfl, rfl⟩
    go_wp2_with fail
    refine (HC.out _ rfl).mono ?_
    rintro e w2 ⟨⟨v, rfl⟩, hst⟩
    have HST := Lib.hid hst
    clear hst
    go_wp2
    go_ret
    exact ⟨rfl, HST.out⟩
end Go.Proofs.Ytinihggcibghaaa
