/-
  Find and Spoil: their walks.
-/
import Derived.Test.YtinihggcibghaaaB7
import Derived.Laws.BitsAllLaws
namespace Go.Proofs.Ytinihggcibghaaa
set_option maxRecDepth 100000
set_option linter.unusedSimpArgs false
open Go Go.RowKit Bg
attribute [local go_sem] Oper.semAt_some

/-- What Find answers. -/
def finX (b : St) (n : Int) : Fl × Bool := match idx b.l n with | none => (noFl, false) | some i => (b.l.getD i noFl, true)
def FinP (x : Fl × Bool) (e : Ending) (w' : World) : Prop := ∃ A cap, e = .returned (.tuple #[flA x.1 (.slice A x.1.d.length cap), .bool x.2]) ∧ BytesAt w' A x.1.d ∧ (A = none → x.1.d = [] ∧ cap = 0)

set_option maxHeartbeats 1000000 in
theorem find_none (w : World) (n : Int) : Calls Try.prog 12 #[.pointer none, .int .i64 n] w fun e w' => e = .returned (.tuple #[flA noFl (.slice none 0 0), .bool false]) ∧ Below w.heap.size w w' := by
  have HT : Hid (∀ x, Calls Try.prog 39 #[.pointer none, .int .i64 n] (w.alloc x) fun e w' => e = .returned (.tuple #[.int .i64 0, .int .i64 1]) ∧ Below (w.heap.size + 1) (w.alloc x) w') := fun x => (place_none _ n).mono (by
    rintro e w' ⟨h1, h⟩
    exact ⟨h1, h.mono (by simp)⟩)
  go_enter Try.func12, Try.ntmps12
  go_wp2_with fail
  refine (HT.out _).mono ?_
  rintro e w1 ⟨rfl, hb⟩
  have hr1 : w1.heap[w.heap.size]? = _ := (hb.block _ (by omega)).trans (World.alloc_heap_new w _)
  obtain ⟨⟨b0, b1, b2, b3, b4⟩, f0, f1', f2, f3, f4⟩ := five hr1
  have hB : Below w.heap.size w w1 := ((Below.refl _ w).alloc (Nat.le_refl _) _).trans (hb.mono (by omega))
  clear hr1 hb
  go_wp2
  refine bodyPost_ret (v := .tuple #[.agg #[.int .i64 0, .int .i64 0, .int .i64 0, .slice none 0 0, .bool false], .bool false]) (by simp [results, Try.results12, go_sem, b0, b1, b2, b3, b4]) rfl ⟨rfl, ?_⟩
  iterate 5 refine Below.setCell ?_ (by simp) _
  exact hB

/-- A packet of a bag, in whatever world that keeps the bag. -/
theorem BagAt.ent {t : TypeId} {w : World} {S : Nat → Prop} {o i : Nat} {b : St} (h : BagAt t w S o b) (hi : i < b.l.length) : ∃ g cap A cap1, (b.l.length ≤ cap ∧ w.cell? ⟨o, 0, none⟩ = some (.slice (some ⟨g, 0, none⟩) b.l.length cap)) ∧
    (w.cell? ⟨g, i * 5, none⟩ = some (.int .i64 (b.l.getD i noFl).n) ∧ w.cell? ⟨g, i * 5 + 1, none⟩ = some (.int .i64 (b.l.getD i noFl).f) ∧ w.cell? ⟨g, i * 5 + 2, none⟩ = some (.int .i64 (b.l.getD i noFl).t) ∧ w.cell? ⟨g, i * 5 + 3, none⟩ = some (.slice A (b.l.getD i noFl).d.length cap1) ∧ w.cell? ⟨g, i * 5 + 4, none⟩ = some (.bool (b.l.getD i noFl).s)) ∧
    BytesAt w A (b.l.getD i noFl).d ∧ (A = none → (b.l.getD i noFl).d = [] ∧ cap1 = 0) ∧ (b.l.getD i noFl).d.length ≤ cap1 := by
  obtain ⟨⟨v, E, hE, ho, hw⟩, _, _⟩ := h
  have hlen : E.length = b.l.length := by rw [← hE]; simp
  obtain ⟨A3, cap3, rfl, hc1, hc2, hA0⟩ := hw.form
  obtain ⟨g, rfl⟩ := hA0 (by omega)
  have hx := entD hE i
  obtain ⟨a1, a2, a3, a4⟩ := hw.ent (k := i) (by omega)
  obtain ⟨x0, x1, x2, x3, x4⟩ := hw.cells (k := i) (by omega)
  obtain ⟨⟨o0, _⟩, _⟩ := eight ho
  unfold Ent.v at x3
  rw [hx] at x0 x1 x2 x3 x4 a1 a2 a4
  rw [hlen] at o0 hc1
  exact ⟨g, cap3, _, _, ⟨hc1, o0⟩, ⟨x0, x1, x2, x3, x4⟩, a1, a4, a2⟩

set_option maxHeartbeats 1000000 in
theorem find_any {w : World} {S : Nat → Prop} {o k : Nat} {b : St} (h : BagAt 29 w S o b) (hb : Bd k b) (n : Int) :
    Calls Try.prog 12 #[.pointer (some ⟨o, 0, none⟩), .int .i64 n] w fun e w' => FinP (finX b n) e w' ∧ Below w.heap.size w w' := by
  have hl := hb.len
  cases hn : idx b.l n with
  | none =>
    have e1 : finX b n = (noFl, false) := by rw [finX, hn]
    have e3 : plV b.l n = (0, 80) := by rw [plV, hn]
    rw [e1]
    have HT : Hid (∀ x, Calls Try.prog 39 #[.pointer (some ⟨o, 0, none⟩), .int .i64 n] (w.alloc x) fun e w' => e = .returned (.tuple #[.int .i64 0, .int .i64 80]) ∧ Below (w.heap.size + 1) (w.alloc x) w') := fun x => (place_any (h.alloc x) hl n).mono (by
      rintro e w' ⟨h1, h⟩
      rw [e3] at h1
      exact ⟨h1, h.mono (by simp)⟩)
    clear h hb
    go_enter Try.func12, Try.ntmps12
    go_wp2_with fail
    refine (HT.out _).mono ?_
    rintro e w1 ⟨rfl, hb⟩
    have hr1 : w1.heap[w.heap.size]? = _ := (hb.block _ (by omega)).trans (World.alloc_heap_new w _)
    obtain ⟨⟨b0, b1, b2, b3, b4⟩, f0, f1', f2, f3, f4⟩ := five hr1
    have hB : Below w.heap.size w w1 := ((Below.refl _ w).alloc (Nat.le_refl _) _).trans (hb.mono (by omega))
    clear hr1 hb
    go_wp2
    refine bodyPost_ret (v := .tuple #[.agg #[.int .i64 0, .int .i64 0, .int .i64 0, .slice none 0 0, .bool false], .bool false]) (by simp [results, Try.results12, go_sem, b0, b1, b2, b3, b4]) rfl ⟨⟨none, 0, rfl, fun j hj => by simp [noFl] at hj, fun _ => ⟨rfl, rfl⟩⟩, ?_⟩
    iterate 5 refine Below.setCell ?_ (by simp) _
    exact hB
  | some i =>
    have hi := (idx_some hn).1
    have e1 : finX b n = (b.l.getD i noFl, true) := by rw [finX, hn]
    have e3 : plV b.l n = (((i : Nat) : Int), 0) := by rw [plV, hn]
    rw [e1]
    have HT : Hid (∀ x, Calls Try.prog 39 #[.pointer (some ⟨o, 0, none⟩), .int .i64 n] (w.alloc x) fun e w' => e = .returned (.tuple #[.int .i64 (i : Nat), .int .i64 0]) ∧ Below (w.heap.size + 1) (w.alloc x) w') := fun x => (place_any (h.alloc x) hl n).mono (by
      rintro e w' ⟨h1, h⟩
      rw [e3] at h1
      exact ⟨h1, h.mono (by simp)⟩)
    have hdl := (hb.at_ hi).1
    have HE : Hid (∀ w1, Below w.heap.size w w1 → ∃ g cap A cap1, (b.l.length ≤ cap ∧ w1.cell? ⟨o, 0, none⟩ = some (.slice (some ⟨g, 0, none⟩) b.l.length cap)) ∧
        (w1.cell? ⟨g, i * 5, none⟩ = some (.int .i64 (b.l.getD i noFl).n) ∧ w1.cell? ⟨g, i * 5 + 1, none⟩ = some (.int .i64 (b.l.getD i noFl).f) ∧ w1.cell? ⟨g, i * 5 + 2, none⟩ = some (.int .i64 (b.l.getD i noFl).t) ∧ w1.cell? ⟨g, i * 5 + 3, none⟩ = some (.slice A (b.l.getD i noFl).d.length cap1) ∧ w1.cell? ⟨g, i * 5 + 4, none⟩ = some (.bool (b.l.getD i noFl).s)) ∧
        Calls Try.prog 40 #[.agg #[.int .i64 (b.l.getD i noFl).n, .int .i64 (b.l.getD i noFl).f, .int .i64 (b.l.getD i noFl).t, .slice A (b.l.getD i noFl).d.length cap1, .bool (b.l.getD i noFl).s]] w1 fun e w' => ∃ A' cap', e = .returned (flA (b.l.getD i noFl) (.slice A' (b.l.getD i noFl).d.length cap')) ∧ (BytesAt w' A' (b.l.getD i noFl).d ∧ (A' = none → (b.l.getD i noFl).d = [] ∧ cap' = 0) ∧ ∀ a, A' = some a → w1.heap.size ≤ a.block) ∧ Below w1.heap.size w1 w') := by
      intro w1 hB
      obtain ⟨g, cap, A, cap1, h1, h2, h3, h4, h5⟩ := (h.below hB).ent hi
      refine ⟨g, cap, A, cap1, h1, h2, (like_any (b.l.getD i noFl) h3 h4 (by omega)).mono ?_⟩
      rintro e w' ⟨v', rfl, q1, q2⟩
      obtain ⟨A', cap', rfl, r1, _, _, r4⟩ := row_bytes q1
      refine ⟨A', cap', rfl, ⟨r1, r4, fun a ha => ?_⟩, q2⟩
      subst ha
      exact (q1.lt a.block rfl).1
    clear h hb hn e1
    generalize b.l.getD i noFl = x at *
    obtain ⟨n1, f1, t1, d1, s1⟩ := x
    simp only at HE hdl
    generalize b.l.length = N at *
    go_enter Try.func12, Try.ntmps12
    go_wp2_with fail
    refine (HT.out _).mono ?_
    rintro e w1 ⟨rfl, hb1⟩
    have hB : Below w.heap.size w w1 := ((Below.refl _ w).alloc (Nat.le_refl _) _).trans (hb1.mono (by omega))
    have hr1 : w1.heap[w.heap.size]? = _ := (hb1.block _ (by omega)).trans (World.alloc_heap_new w _)
    obtain ⟨g, cap, A, cap1, ⟨hc, o0⟩, ⟨x0, x1, x2, x3, x4⟩, hcall⟩ := HE.out w1 hB
    have HCL := Lib.hid hcall
    clear hcall HE HT hb1
    go_wp2_with fail
    refine HCL.out.mono ?_
    rintro e w2 ⟨A', cap', rfl, ⟨hby, hnn, hab⟩, hb2⟩
    have hr2 : w2.heap[w.heap.size]? = _ := (hb2.block _ (blk_lt hr1)).trans hr1
    have hz1 := blk_lt hr1
    have hz2 := hb2.size
    have HB2 : Hid (Below w.heap.size w w2) := hB.trans (hb2.mono hB.size)
    obtain ⟨⟨b0, b1, b2, b3, b4⟩, f0, f1', f2, f3, f4⟩ := five hr2
    have HR2 := Lib.hid hr2
    have HBY := Lib.hid hby
    have HAB := Lib.hid hab
    clear hr1 hr2 hby hab hb2 hB x0 x1 x2 x3 x4 o0
    go_wp2
    obtain ⟨W', hW'⟩ : ∃ W', W' = (((((w2.setCell ⟨w.heap.size, 0, none⟩ (.int .i64 n1)).setCell ⟨w.heap.size, 1, none⟩ (.int .i64 f1)).setCell ⟨w.heap.size, 2, none⟩ (.int .i64 t1)).setCell ⟨w.heap.size, 3, none⟩ (.slice A' d1.length cap')).setCell ⟨w.heap.size, 4, none⟩ (.bool s1)) := ⟨_, rfl⟩
    rw [← hW']
    have hkz : Kept (fun k => k = w.heap.size) w2 W' := by
      rw [hW']
      exact (((((Kept.refl (fun k => k = w.heap.size) _).setCell (p := ⟨w.heap.size, 0, none⟩) (.inl rfl) _).setCell (p := ⟨w.heap.size, 1, none⟩) (.inl rfl) _).setCell (p := ⟨w.heap.size, 2, none⟩) (.inl rfl) _).setCell (p := ⟨w.heap.size, 3, none⟩) (.inl rfl) _).setCell (p := ⟨w.heap.size, 4, none⟩) (.inl rfl) _
    have hWb : W'.heap[w.heap.size]? = some (.cells #[.int .i64 n1, .int .i64 f1, .int .i64 t1, .slice A' d1.length cap', .bool s1] 38 (0, 0)) := by
      rw [hW', blk_set (blk_set (blk_set (blk_set (blk_set HR2.out 0 _) 1 _) 2 _) 3 _) 4 _]
      rfl
    obtain ⟨⟨z0, z1, z2, z3, z4⟩, _⟩ := five hWb
    have hfin : FinP (⟨n1, f1, t1, d1, s1⟩, true) (.returned (.tuple #[.agg #[.int .i64 n1, .int .i64 f1, .int .i64 t1, .slice A' d1.length cap', .bool s1], .bool true])) W' ∧ Below w.heap.size w W' := by
      refine ⟨⟨A', cap', rfl, HBY.out.kept hkz ?_, hnn⟩, HB2.out.trans ⟨hkz.os, hkz.tape, hkz.output, hkz.size, fun k hk => hkz.block k (by omega) (by omega)⟩⟩
      intro a ha e
      have := HAB.out a ha
      omega
    clear hW' hWb hkz
    refine bodyPost_ret (v := .tuple #[.agg #[.int .i64 n1, .int .i64 f1, .int .i64 t1, .slice A' d1.length cap', .bool s1], .bool true]) (by simp [results, Try.results12, go_sem, z0, z1, z2, z3, z4]) rfl hfin

set_option maxHeartbeats 1000000 in
theorem spoil_none (w : World) (n a : Int) (v : Nat) : Calls Try.prog 23 #[.pointer none, .int .i64 n, .int .i64 a, byV v] w fun e w' => e = .returned (.int .i64 1) ∧ Below w.heap.size w w' := by
  have HT := Lib.hid (place_none w n)
  go_enter Try.func23, Try.ntmps23
  go_wp2_with fail
  refine HT.out.mono ?_
  rintro e w1 ⟨rfl, hb⟩
  have HB := Lib.hid hb
  clear hb
  go_wp2
  go_ret
  exact ⟨rfl, HB.out⟩

/-- What Spoil answers. -/
def spoilV (b : St) (n a : Int) (v : Nat) : Int := match idx b.l n with | none => 80 | some i => if canS (b.l.getD i noFl) a v then 0 else 80
set_option maxHeartbeats 2000000 in
theorem spoil_any {w : World} {S : Nat → Prop} {o k : Nat} {b : St} (h : BagAt 29 w S o b) (hb : Bd k b) (hk : k ≤ 900000) (n a : Int) {v : Nat} (hv : v < 256) :
    Calls Try.prog 23 #[.pointer (some ⟨o, 0, none⟩), .int .i64 n, .int .i64 a, .int .u8 (v : Nat)] w fun e w' => e = .returned (.int .i64 (spoilV b n a v)) ∧ StepTo 29 w S o (spoilS b n a v) w' := by
  have hl := hb.len
  have hd := hb.spt
  have HP := Lib.hid (place_any h hl n)
  have HF : Hid (∀ w', Below w.heap.size w w' → StepTo 29 w S o b w') := fun w' hw' => StepTo.still h hw'
  cases hn : idx b.l n with
  | none =>
    have e1 : spoilV b n a v = 80 := by rw [spoilV, hn]
    have e2 : spoilS b n a v = b := by rw [spoilS, hn]
    have e3 : plV b.l n = (0, 80) := by rw [plV, hn]
    rw [e1, e2]
    rw [e3] at HP
    clear h hb
    go_enter Try.func23, Try.ntmps23
    go_wp2_with fail
    refine HP.out.mono ?_
    rintro e w1 ⟨rfl, hb⟩
    have HB := Lib.hid (HF.out _ hb)
    clear hb
    go_wp2
    go_ret
    exact ⟨rfl, HB.out⟩
  | some i =>
    have hi := (idx_some hn).1
    have e3 : plV b.l n = (((i : Nat) : Int), 0) := by rw [plV, hn]
    rw [e3] at HP
    have hat := hb.at_ hi
    obtain ⟨P, hP⟩ : ∃ P : Ending → World → Prop, P = fun e w' => e = .returned (.int .i64 (spoilV b n a v)) ∧ StepTo 29 w S o (spoilS b n a v) w' := ⟨_, rfl⟩
    have HNo : Hid (canS (b.l.getD i noFl) a v = false → ∀ w', Below w.heap.size w w' → P (.returned (.int .i64 80)) w') := fun hc w' hw' => by
      rw [hP]
      refine ⟨by simp only [spoilV, hn]; rw [hc]; rfl, ?_⟩
      have : spoilS b n a v = b := by simp only [spoilS, hn]; rw [hc]; rfl
      rw [this]; exact HF.out w' hw'
    rw [← hP]
    have HE : Hid (∀ w1, Below w.heap.size w w1 → ∃ g cap, (b.l.length ≤ cap ∧ w1.cell? ⟨o, 0, none⟩ = some (.slice (some ⟨g, 0, none⟩) b.l.length cap)) ∧ w1.cell? ⟨g, i * 5 + 4, none⟩ = some (.bool (b.l.getD i noFl).s) ∧ (∃ A cap1, w1.cell? ⟨g, i * 5 + 3, none⟩ = some (.slice A (b.l.getD i noFl).d.length cap1)) ∧
        (canS (b.l.getD i noFl) a v = true → ∃ (at_ gd cap1 : Nat), a = (at_ : Nat) ∧ at_ < (b.l.getD i noFl).d.length ∧ gd ≠ g ∧ gd ≠ o ∧ g ≠ o ∧ w1.cell? ⟨g, i * 5 + 3, none⟩ = some (.slice (some ⟨gd, 0, none⟩) (b.l.getD i noFl).d.length cap1) ∧
          (w1.cell? ⟨gd, at_, none⟩ = some (.int .u8 (((b.l.getD i noFl).d.getD at_ 0 : Nat) : Int)) ∧ w1.frozen? ⟨gd, at_, none⟩ = false) ∧ w1.frozen? ⟨g, i * 5 + 4, none⟩ = false ∧ (w1.cell? ⟨o, 6, none⟩ = some (.int .i64 (b.c.spt : Nat)) ∧ w1.frozen? ⟨o, 6, none⟩ = false) ∧
          ∀ x u : Int, x = (((b.l.getD i noFl).d.getD at_ 0 ^^^ v : Nat) : Int) → u = (b.c.spt : Int) + 1 → P (.returned (.int .i64 0)) (((w1.setCell ⟨gd, at_, none⟩ (.int .u8 x)).setCell ⟨g, i * 5 + 4, none⟩ (.bool true)).setCell ⟨o, 6, none⟩ (.int .i64 u)))) := by
      intro w1 hB
      have h1 := h.below hB
      obtain ⟨g, cap, A, cap1, q1, q2, q3, q4, q5⟩ := h1.ent hi
      refine ⟨g, cap, q1, q2.2.2.2.2, ⟨A, cap1, q2.2.2.2.1⟩, fun hc => ?_⟩
      obtain ⟨A0, cap0, _, ⟨c0, _, _, _, _, _, c6, _⟩, cf⟩ := h1.cells
      unfold canS at hc
      simp only [Bool.and_eq_true, Bool.not_eq_true', decide_eq_true_eq] at hc
      obtain ⟨⟨⟨hs, ha0⟩, ha1⟩, hv0⟩ := hc
      obtain ⟨at_, rfl⟩ := Int.eq_ofNat_of_zero_le ha0
      have hat1 : at_ < (b.l.getD i noFl).d.length := by omega
      have h10 := h1
      obtain ⟨⟨vv, E, hE, ho, hw⟩, hso, hlt⟩ := h1
      have hlen : E.length = b.l.length := by rw [← hE]; simp
      have hx := entD hE i
      obtain ⟨⟨o0, _⟩, _⟩ := eight ho
      have hvv : vv = .slice (some ⟨g, 0, none⟩) b.l.length cap := by rw [o0] at q1; exact Option.some.inj q1.2
      subst hvv
      have hiE : i < E.length := by omega
      obtain ⟨gd, r1, r2, r3, r4, r5⟩ := hw.spoil (i := i) (a := at_) hiE (by rw [hx]; exact hat1) v
      rw [hx] at r5
      have hdat := hw.dat _ (entM hiE)
      have hve : Ent.v (E.getD i noE) = .slice (some ⟨gd, 0, none⟩) (b.l.getD i noFl).d.length (E.getD i noE).2.2 := by unfold Ent.v; rw [r1, hx]
      rw [hve, hx] at hdat
      obtain ⟨_, _, _, y3, _⟩ := hw.cells (k := i) hiE
      rw [hve] at y3
      have hgo := (hw.vo g rfl).2
      have hrow := hw.row
      rw [hlen] at hrow
      refine ⟨at_, gd, _, rfl, hat1, r4, r3, hgo, y3, ⟨?_, hdat.frozenAt at_⟩, hrow.frozenAt _, ⟨c6, cf 6⟩, fun x u hx' hu => ?_⟩
      · rw [hdat.cellAt at_ (by omega)]
        generalize (b.l.getD i noFl).d = dd at *
        rw [List.getElem?_map, List.getElem?_eq_getElem hat1, List.getD_eq_getElem?_getD, List.getElem?_eq_getElem hat1]; rfl
      · rw [hP]
        have hcs : canS (b.l.getD i noFl) (at_ : Nat) v = true := by
          unfold canS
          simp only [Bool.and_eq_true, Bool.not_eq_true', decide_eq_true_eq]
          exact ⟨⟨⟨hs, by omega⟩, by omega⟩, hv0⟩
        refine ⟨by simp only [spoilV, hn]; rw [hcs]; rfl, ?_⟩
        have e2 : spoilS b n (at_ : Nat) v = { b with l := b.l.set i (spoilt (b.l.getD i noFl) at_ v), c := { b.c with spt := b.c.spt + 1 } } := by
          simp only [spoilS, hn]; rw [hcs]; rfl
        rw [e2]
        have k1 : Kept S w1 (w1.setCell ⟨gd, at_, none⟩ (.int .u8 x)) := (Kept.refl S w1).setCell (p := ⟨gd, at_, none⟩) (.inl r2) _
        have k2 : Kept S w1 ((w1.setCell ⟨gd, at_, none⟩ (.int .u8 x)).setCell ⟨g, i * 5 + 4, none⟩ (.bool true)) := k1.setCell (p := ⟨g, i * 5 + 4, none⟩) (.inl (hw.vo g rfl).1) _
        have k3 : Kept S w1 (((w1.setCell ⟨gd, at_, none⟩ (.int .u8 x)).setCell ⟨g, i * 5 + 4, none⟩ (.bool true)).setCell ⟨o, 6, none⟩ (.int .i64 u)) := k2.setCell (p := ⟨o, 6, none⟩) (.inl hso) _
        refine StepS.to ⟨(Kept.of_below (X := S) hB (Nat.le_refl _)).trans k3 (fun _ _ h => h), ?_⟩
        refine ⟨⟨.slice (some ⟨g, 0, none⟩) b.l.length cap, E.set i (spoilt (b.l.getD i noFl) at_ v, (E.getD i noE).2), ?_, ?_, ?_⟩, hso, fun k hk' => by simpa using hlt k hk'⟩
        · rw [List.map_set, hE]
        · rw [blk_set (cur := objC (.slice (some ⟨g, 0, none⟩) b.l.length cap) b) (e := 29) (m := (0, 0))]
          · rw [hu]; simp
          · rw [Below.heap_setCell _ _ _ _ (by simpa using fun e => hgo e.symm), Below.heap_setCell _ _ _ _ (by simpa using fun e => r3 e.symm)]
            exact ho
        · subst hx'
          exact r5.obj (setO _ o 6 _)
    clear h hb hn HF hP e3
    have hvl : b.l.length ≤ 256 := hl
    generalize b.l.getD i noFl = x at *
    obtain ⟨n1, f1, t1, d1, s1⟩ := x
    simp only at HE hat
    generalize b.l.length = N at *
    generalize b.c.spt = L at *
    go_enter Try.func23, Try.ntmps23
    go_wp2_with fail
    refine HP.out.mono ?_
    rintro e w1 ⟨rfl, hB⟩
    obtain ⟨g, cap, ⟨hc, o0⟩, x4, ⟨A, cap1, x3⟩, HY⟩ := HE.out w1 hB
    have HN2 : Hid (canS ⟨n1, f1, t1, d1, s1⟩ a v = false → P (.returned (.int .i64 80)) w1) := fun hc => HNo.out hc w1 hB
    have HYY := Lib.hid HY
    clear HY HE HNo HP hB
    have hdl := hat.1
    have HDB := Lib.hid hat.2
    clear hat
    cases s1 with
    | true =>
      have HQ := Lib.hid (HN2.out rfl)
      clear HN2 HYY
      go_wp2
      exact HQ.out
    | false =>
      by_cases ha0 : a < 0
      · have HQ := Lib.hid (HN2.out (by unfold canS; simp; omega))
        clear HN2 HYY
        go_wp2
        exact HQ.out
      · by_cases ha1 : (d1.length : Int) ≤ a
        · have HQ := Lib.hid (HN2.out (by unfold canS; simp; omega))
          clear HN2 HYY
          go_wp2
          exact HQ.out
        · by_cases hv0 : v = 0
          · have HQ := Lib.hid (HN2.out (by unfold canS; simp; omega))
            subst hv0
            clear HN2 HYY
            go_wp2
            exact HQ.out
          · have hcan : canS ⟨n1, f1, t1, d1, false⟩ a v = true := by unfold canS; simp; omega
            obtain ⟨at_, gd, cap2, rfl, hat, hg1, hg2, hg3, y3, ⟨y4, y5⟩, y6, ⟨y7, y8⟩, HFF⟩ := HYY.out hcan
            have HQ := Lib.hid HFF
            have dv : ((v : Int) == 0) = false := by
              have : ¬ (v : Int) = 0 := by omega
              simpa using this
            clear HN2 HYY HFF x3
            have hz : d1.getD at_ 0 < 256 := by
              rw [List.getD_eq_getElem?_getD, List.getElem?_eq_getElem hat]; exact HDB.out _ (List.getElem_mem hat)
            have hxor := u8_xor_nat (d1.getD at_ 0) v hz hv
            generalize d1.getD at_ 0 = z at *
            generalize d1.length = DL at *
            go_wp2
            exact HQ.out _ _ rfl rfl
end Go.Proofs.Ytinihggcibghaaa
