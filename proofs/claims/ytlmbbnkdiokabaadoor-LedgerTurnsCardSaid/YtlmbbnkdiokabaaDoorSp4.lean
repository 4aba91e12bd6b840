/-
  Put, Raise, Cut, Find, First of a queue.
-/
import Derived.Test.YtlmbbnkdiokabaaDoorSp3
namespace Go.Proofs.YtlmbbnkdiokabaaDoor
set_option maxRecDepth 100000
set_option linter.unusedSimpArgs false
open Go Go.RowKit Sp
attribute [local go_sem] Oper.semAt_some

theorem look_any {V : World} {p : Option Addr} {l : List Wt} (h : QP V p l) (r : Int) :
    Calls Tryd.prog 73 #[.pointer p, .func (.func 81) #[] #[.pointer (some ⟨V.heap.size, 0, none⟩)]] (V.alloc (.cells #[.int .i64 r] 3)) fun e w' => e = .returned (.tuple #[.int .i64 (idx l r : Nat), .bool (has l r)]) ∧ Below V.heap.size V w' := by
  have h1 := World.alloc_heap_new V (.cells #[.int .i64 r] 3)
  have h2 : QP (V.alloc (.cells #[.int .i64 r] 3)) p l := h.kept (X := fun _ => False) ((Kept.refl _ V).alloc _) (fun _ _ => id)
  refine (place_of h2 h1).mono ?_
  rintro e w' ⟨rfl, h3⟩
  exact ⟨rfl, ((Below.refl _ V).alloc (Nat.le_refl _) _).trans (h3.mono (by simp))⟩
theorem kept_of_below {w w' : World} (h : Below w.heap.size w w') : Kept (fun _ => False) w w' := Kept.of_below h (Nat.le_refl _)
theorem has_some {w : World} {p : Option Addr} {l : List Wt} (h : QP w p l) {r : Int} (hh : has l r = true) : ∃ o, p = some ⟨o, 0, none⟩ ∧ QAt w o l ∧ idx l r < l.length := by
  have h1 : idx l r < l.length := by simpa [has] using hh
  rcases h with ⟨_, rfl⟩ | ⟨o, rfl, h⟩
  · simp at h1
  · exact ⟨o, rfl, h, h1⟩
theorem QP.still {w w' : World} {p : Option Addr} {l : List Wt} (h : QP w p l) (hb : Below w.heap.size w w') : QP w' p l := h.kept (kept_of_below hb) (fun _ _ => id)

/-- Cut. -/
theorem cut_any {w : World} {p : Option Addr} {l : List Wt} (h : QP w p l) (r : Int) :
    Calls Tryd.prog 78 #[.pointer p, .int .i64 r] w fun e w' => e = .returned (.bool (has l r)) ∧ QP w' p (cutL l r) ∧ Kept (OfP p) w w' := by
  obtain ⟨P, hP⟩ : ∃ P : Ending → World → Prop, P = fun e w' => e = .returned (.bool (has l r)) ∧ QP w' p (cutL l r) ∧ Kept (OfP p) w w' := ⟨_, rfl⟩
  have HP : Hid (∀ w', QP w' p (cutL l r) → Kept (OfP p) w w' → P (.returned (.bool (has l r))) w') := by rw [hP]; exact fun w' h1 h2 => ⟨rfl, h1, h2⟩
  rw [← hP]
  clear hP
  have HL := Lib.hid (look_any h r)
  have HQ := Lib.hid h
  by_cases hh : has l r = true
  · obtain ⟨o, rfl, h1, h2⟩ := has_some h hh
    have hc : cutL l r = l.eraseIdx (idx l r) := by unfold cutL; rw [if_pos hh]
    rw [hh] at HL HP
    rw [hc] at HP
    have HT : Hid (∀ V, Below w.heap.size w V → Calls Tryd.prog 75 #[.pointer (some ⟨o, 0, none⟩), .int .i64 (idx l r : Nat)] V fun e w' => (∃ v, e = .returned v) ∧ P (.returned (.bool true)) w') := by
      intro V hV
      refine (take_any (h1.kept (kept_of_below hV) id) h2).mono ?_
      rintro e w' ⟨rfl, h3, h4⟩
      exact ⟨⟨_, rfl⟩, HP.out w' (.inr ⟨o, rfl, h3⟩) (((kept_of_below hV).mono (fun _ _ h => h.elim)).trans h4 (fun k _ e => ⟨o, rfl, e⟩))⟩
    clear h h1 h2 hh hc HP
    generalize idx l r = i at *
    go_enter Tryd.func78, Tryd.ntmps78
    go_wp2_with fail
    refine (of_any _ _).mono ?_
    rintro e w2 ⟨rfl, rfl⟩
    go_wp2_with fail
    refine HL.out.mono ?_
    rintro e V ⟨rfl, hV⟩
    go_wp2_with fail
    refine (HT.out V hV).mono ?_
    rintro e V2 ⟨⟨v, rfl⟩, hF⟩
    have HF := Lib.hid hF
    clear hF
    go_wp2
    exact HF.out
  · have hh' : has l r = false := by simpa using hh
    have hc : cutL l r = l := by unfold cutL; rw [if_neg hh]
    rw [hh'] at HL HP
    rw [hc] at HP
    have HF : Hid (∀ V, Below w.heap.size w V → P (.returned (.bool false)) V) := fun V hV => HP.out V (HQ.out.still hV) ((kept_of_below hV).mono (fun _ _ h => h.elim))
    clear h hh hc HP
    generalize idx l r = i at *
    go_enter Tryd.func78, Tryd.ntmps78
    go_wp2_with fail
    refine (of_any _ _).mono ?_
    rintro e w2 ⟨rfl, rfl⟩
    go_wp2_with fail
    refine HL.out.mono ?_
    rintro e V ⟨rfl, hV⟩
    have HF2 := Lib.hid (HF.out V hV)
    clear hV
    go_wp2
    exact HF2.out

theorem box3 {V : World} {a b c : Value} {t : TypeId} : (V.alloc (.cells #[a, b, c] t)).heap[V.heap.size]? = some (.cells #[a, b, c] t (0, 0)) := World.alloc_heap_new V _

/-- Find. -/
def finV (l : List Wt) (r : Int) : Wt := if has l r then at_ l r else w0
/-- First. -/
theorem first_any {w : World} {p : Option Addr} {l : List Wt} (h : QP w p l) :
    Calls Tryd.prog 64 #[.pointer p] w fun e w' => e = .returned (.tuple #[wv (l.getD 0 w0), .bool (decide (0 < l.length))]) ∧ Below w.heap.size w w' := by
  obtain ⟨P, hP⟩ : ∃ P : Ending → World → Prop, P = fun e w' => e = .returned (.tuple #[wv (l.getD 0 w0), .bool (decide (0 < l.length))]) ∧ Below w.heap.size w w' := ⟨_, rfl⟩
  have HP : Hid (∀ w', Below w.heap.size w w' → P (.returned (.tuple #[wv (l.getD 0 w0), .bool (decide (0 < l.length))])) w') := by rw [hP]; exact fun w' h1 => ⟨rfl, h1⟩
  rw [← hP]
  clear hP
  have HB : Hid (∀ t c, Below w.heap.size w (w.alloc (.cells c t))) := fun t c => (Below.refl _ w).alloc (Nat.le_refl _) _
  have HL : Hid (∀ t c, Calls Tryd.prog 77 #[.pointer p] (w.alloc (.cells c t)) fun e w' => e = .returned (.int .i64 (l.length : Nat)) ∧ (w.alloc (.cells c t)) = w') := fun t c => qlen_any (h.still ((Below.refl _ w).alloc (Nat.le_refl _) _))
  by_cases h0 : 0 < l.length
  · rcases h with ⟨_, rfl⟩ | ⟨o, rfl, h1⟩
    · simp at h0
    have hc : ∀ t c, (w.alloc (.cells c t)).cell? ⟨o, 0, none⟩ = some (.int .i64 (l.getD 0 w0).r) ∧ (w.alloc (.cells c t)).cell? ⟨o, 1, none⟩ = some (.int .u64 (l.getD 0 w0).s) ∧ (w.alloc (.cells c t)).cell? ⟨o, 2, none⟩ = some (.int .i64 (l.getD 0 w0).p) := by
      intro t c
      obtain ⟨q1, q2, q3⟩ := h1.2.wt (j := 0) (by omega)
      rw [pad_get h0] at q1 q2 q3
      exact ⟨Lib.cell?_alloc_some _ q1, Lib.cell?_alloc_some _ q2, Lib.cell?_alloc_some _ q3⟩
    have c0 := fun t c => (hc t c).1
    have c1 := fun t c => (hc t c).2.1
    have c2 := fun t c => (hc t c).2.2
    clear hc
    have hol := h1.lt
    have e0 : (((l.length : Nat) : Int) == 0) = false := by
      have : ¬ ((l.length : Nat) : Int) = 0 := by omega
      simpa using this
    rw [show decide (0 < l.length) = true by simpa using h0] at HP
    simp only [wv] at HP
    have hl0 : ¬ l.length = 0 := by omega
    clear h1 h0
    generalize l.length = n at *
    generalize (l.getD 0 w0).r = x0 at *
    generalize (l.getD 0 w0).s = x1 at *
    generalize (l.getD 0 w0).p = x2 at *
    go_enter Tryd.func64, Tryd.ntmps64
    go_wp2_with fail
    refine (HL.out _ _).mono ?_
    rintro e W ⟨rfl, rfl⟩
    go_wp2
    have b1 := box3 (V := w) (a := .int .i64 x0) (b := .int .u64 x1) (c := .int .i64 x2) (t := 71)
    have g0 := blk_cell b1 0
    have g1 := blk_cell b1 1
    have g2 := blk_cell b1 2
    refine bodyPost_ret (v := .tuple #[.agg #[.int .i64 x0, .int .u64 x1, .int .i64 x2], .bool true]) (by simp [results, Tryd.results64, go_sem, g0, g1, g2]) rfl (HP.out _ (HB.out _ _))
  · obtain rfl : l = [] := List.eq_nil_of_length_eq_zero (by omega)
    rw [show decide (0 < ([] : List Wt).length) = false from rfl] at HP
    have HP2 : Hid (∀ w', Below w.heap.size w w' → P (.returned (.tuple #[.agg #[.int .i64 0, .int .u64 0, .int .i64 0], .bool false])) w') := HP.out
    have HL2 : Hid (∀ t c, Calls Tryd.prog 77 #[.pointer p] (w.alloc (.cells c t)) fun e w' => e = .returned (.int .i64 0) ∧ (w.alloc (.cells c t)) = w') := HL.out
    clear h h0 HP HL
    go_enter Tryd.func64, Tryd.ntmps64
    go_wp2_with fail
    refine (HL2.out _ _).mono ?_
    rintro e W ⟨rfl, rfl⟩
    go_wp2
    have b1 := box3 (V := w) (a := .int .i64 0) (b := .int .u64 0) (c := .int .i64 0) (t := 71)
    have g0 := blk_cell b1 0
    have g1 := blk_cell b1 1
    have g2 := blk_cell b1 2
    refine bodyPost_ret (v := .tuple #[.agg #[.int .i64 0, .int .u64 0, .int .i64 0], .bool false]) (by simp [results, Tryd.results64, go_sem, g0, g1, g2]) rfl (HP2.out _ (HB.out _ _))

/-- Put of none's. -/
theorem put_none (w : World) (y : Wt) :
    Calls Tryd.prog 63 #[.pointer none, wv y] w fun e w' => e = .returned (.tuple #[.bool false, .int .i64 1]) ∧ Below w.heap.size w w' := by
  obtain ⟨P, hP⟩ : ∃ P : Ending → World → Prop, P = fun e w' => e = .returned (.tuple #[.bool false, .int .i64 1]) ∧ Below w.heap.size w w' := ⟨_, rfl⟩
  have HB : Hid (∀ t c, P (.returned (.tuple #[.bool false, .int .i64 1])) (w.alloc (.cells c t))) := by rw [hP]; exact fun t c => ⟨rfl, (Below.refl _ w).alloc (Nat.le_refl _) _⟩
  rw [← hP]
  clear hP
  obtain ⟨x0, x1, x2⟩ := y
  simp only [wv]
  go_enter Tryd.func63, Tryd.ntmps63
  go_wp2
  exact HB.out _ _

set_option maxHeartbeats 4000000 in
/-- Put. -/
theorem put_any {w : World} {o : Nat} {l : List Wt} (h : QAt w o l) (y : Wt) :
    Calls Tryd.prog 63 #[.pointer (some ⟨o, 0, none⟩), wv y] w fun e w' => e = .returned (.tuple #[.bool (may y && putB y l), .int .i64 (if may y then 0 else 2)]) ∧ QAt w' o (if may y then putL y l else l) ∧ Kept (fun k => k = o) w w' := by
  obtain ⟨P, hP⟩ : ∃ P : Ending → World → Prop, P = fun e w' => e = .returned (.tuple #[.bool (may y && putB y l), .int .i64 (if may y then 0 else 2)]) ∧ QAt w' o (if may y then putL y l else l) ∧ Kept (fun k => k = o) w w' := ⟨_, rfl⟩
  have HP : Hid (∀ w', QAt w' o (if may y then putL y l else l) → Kept (fun k => k = o) w w' → P (.returned (.tuple #[.bool (may y && putB y l), .int .i64 (if may y then 0 else 2)])) w') := by rw [hP]; exact fun w' h1 h2 => ⟨rfl, h1, h2⟩
  rw [← hP]
  clear hP
  have hol := h.lt
  -- what is asked ahead of all else: may it be; where is it
  have HM : Hid (Calls Tryd.prog 72 #[.agg #[.int .i64 y.r, .int .u64 y.s, .int .i64 y.p]] (w.alloc (.cells #[.int .i64 y.r, .int .u64 y.s, .int .i64 y.p] 71)) fun e w' => e = .returned (.bool (may y)) ∧ w'.heap[w.heap.size]? = some (.cells #[.int .i64 y.r, .int .u64 y.s, .int .i64 y.p] 71 (0, 0)) ∧ Below w.heap.size w w' ∧ w.heap.size + 1 ≤ w'.heap.size) := by
    refine (may_any _ y).mono ?_
    rintro e w' ⟨rfl, h1, h2⟩
    rw [World.size_alloc] at h1
    exact ⟨rfl, (h1.block _ (by omega)).trans box3, ((Below.refl _ w).alloc (Nat.le_refl _) _).trans (h1.mono (by omega)), by have := h1.size; simpa using this⟩
  have HL : Hid (∀ V, Below w.heap.size w V → V.heap[w.heap.size]? = some (.cells #[.int .i64 y.r, .int .u64 y.s, .int .i64 y.p] 71 (0, 0)) → Calls Tryd.prog 73 #[.pointer (some ⟨o, 0, none⟩), .func (.func 81) #[] #[.pointer (some ⟨V.heap.size, 0, none⟩)]] (V.alloc (.cells #[.int .i64 y.r] 3)) fun e w' => e = .returned (.tuple #[.int .i64 (idx l y.r : Nat), .bool (has l y.r)]) ∧ w'.heap[w.heap.size]? = some (.cells #[.int .i64 y.r, .int .u64 y.s, .int .i64 y.p] 71 (0, 0)) ∧ QAt w' o l ∧ Kept (fun k => k = o) w w') := by
    intro V hV hb
    refine (look_any (.inr ⟨o, rfl, h.kept (kept_of_below hV) id⟩) y.r).mono ?_
    rintro e w' ⟨rfl, h1⟩
    have hV2 : Below w.heap.size w w' := hV.trans (h1.mono hV.size)
    exact ⟨rfl, (h1.block _ (blk_lt hb)).trans hb, h.kept (kept_of_below hV2) id, (kept_of_below hV2).mono (fun _ _ h => h.elim)⟩
  by_cases hm : may y = true
  · rw [hm] at HP HM
    simp only [if_true, Bool.true_and] at HP
    by_cases hh : has l y.r = true
    · have h2 : idx l y.r < l.length := by simpa [has] using hh
      have hi8 : idx l y.r < 8 := by have := h.1; omega
      have i8 : ((idx l y.r : Nat) : Int) < 8 := by omega
      have i0 : (0 : Int) ≤ ((idx l y.r : Nat) : Int) := by omega
      rw [show putB y l = true by unfold putB; rw [hh]; rfl] at HP
      rw [hh] at HL
      have HC : Hid (∀ V, QAt V o l → V.cell? ⟨o, idx l y.r * 3 + 2, none⟩ = some (.int .i64 (at_ l y.r).p)) := by
        intro V hV
        have := (hV.2.wt (j := idx l y.r) hi8).2.2
        rw [pad_get h2] at this
        exact this
      by_cases hp : y.p ≤ (at_ l y.r).p
      · rw [show putL y l = l by unfold putL; rw [if_pos hh, if_pos hp]] at HP
        have d1 : decide (y.p ≤ (at_ l y.r).p) = true := by simpa using hp
        clear h hm hh h2 hp
        generalize idx l y.r = i at *
        generalize (at_ l y.r).p = x3 at *
        obtain ⟨x0, x1, x2⟩ := y
        simp only [wv] at *
        go_enter Tryd.func63, Tryd.ntmps63
        go_wp2_with fail
        refine HM.out.mono ?_
        rintro e V ⟨rfl, hb, hV, _⟩
        have e0 : V.cell? ⟨w.heap.size, 0, none⟩ = some (.int .i64 x0) := by rw [blk_cell hb]; rfl
        have HL2 := Lib.hid (HL.out V hV hb)
        clear HL hb hV
        go_wp2_with fail
        refine (of_any _ _).mono ?_
        rintro e w2 ⟨rfl, rfl⟩
        go_wp2_with fail
        refine HL2.out.mono ?_
        rintro e V2 ⟨rfl, hb, hq, hk⟩
        have e2 : V2.cell? ⟨w.heap.size, 2, none⟩ = some (.int .i64 x2) := by rw [blk_cell hb]; rfl
        have e2' : V2.drew.cell? ⟨w.heap.size, 2, none⟩ = some (.int .i64 x2) := e2
        have c2 := HC.out V2 hq
        have c2' := HC.out V2.drew hq
        have HB2 : Hid (V2.drew.heap[w.heap.size]? = some (.cells #[.int .i64 x0, .int .u64 x1, .int .i64 x2] 71 (0, 0))) := hb
        have HQ2 : Hid (QAt V2.drew o l) := hq
        have HK2 := Lib.hid hk.drew
        clear hb hq hk HL2 e0
        go_wp2_with fail
        go_region
        generalize V2.drew = V3 at *
        have HF := Lib.hid (HP.out V3 HQ2.out HK2.out)
        go_wp2
        exact HF.out
      · rw [show putL y l = ins y (l.eraseIdx (idx l y.r)) by unfold putL; rw [if_pos hh, if_neg hp]] at HP
        have d1 : decide (y.p ≤ (at_ l y.r).p) = false := by simpa using hp
        have HT : Hid (∀ V, QAt V o l → Kept (fun k => k = o) w V → V.heap[w.heap.size]? = some (.cells #[.int .i64 y.r, .int .u64 y.s, .int .i64 y.p] 71 (0, 0)) → Calls Tryd.prog 75 #[.pointer (some ⟨o, 0, none⟩), .int .i64 (idx l y.r : Nat)] V fun e w' => (∃ v, e = .returned v) ∧ QAt w' o (l.eraseIdx (idx l y.r)) ∧ Kept (fun k => k = o) w w' ∧ w'.heap[w.heap.size]? = some (.cells #[.int .i64 y.r, .int .u64 y.s, .int .i64 y.p] 71 (0, 0))) := by
          intro V hV hk hb
          refine (take_any hV h2).mono ?_
          rintro e w' ⟨rfl, h5, h6⟩
          exact ⟨⟨_, rfl⟩, h5, hk.trans h6 (fun k _ e => e), (h6.block _ (blk_lt hb) (by omega)).trans hb⟩
        have HI : Hid (∀ V, QAt V o (l.eraseIdx (idx l y.r)) → Kept (fun k => k = o) w V → Calls Tryd.prog 76 #[.pointer (some ⟨o, 0, none⟩), .agg #[.int .i64 y.r, .int .u64 y.s, .int .i64 y.p]] V fun e w' => (∃ v, e = .returned v) ∧ P (.returned (.tuple #[.bool true, .int .i64 0])) w') := by
          intro V h5 h6
          refine (ins_any h5 (by rw [erase_len h2]; have := h.1; omega) y).mono ?_
          rintro e w' ⟨rfl, h7, h8⟩
          exact ⟨⟨_, rfl⟩, HP.out w' h7 (h6.trans h8 (fun k _ e => e))⟩
        clear h hm hh h2 hp HP
        generalize idx l y.r = i at *
        generalize (at_ l y.r).p = x3 at *
        obtain ⟨x0, x1, x2⟩ := y
        simp only [wv] at *
        go_enter Tryd.func63, Tryd.ntmps63
        go_wp2_with fail
        refine HM.out.mono ?_
        rintro e V ⟨rfl, hb, hV, _⟩
        have e0 : V.cell? ⟨w.heap.size, 0, none⟩ = some (.int .i64 x0) := by rw [blk_cell hb]; rfl
        have HL2 := Lib.hid (HL.out V hV hb)
        clear HL hb hV
        go_wp2_with fail
        refine (of_any _ _).mono ?_
        rintro e w2 ⟨rfl, rfl⟩
        go_wp2_with fail
        refine HL2.out.mono ?_
        rintro e V2 ⟨rfl, hb, hq, hk⟩
        have e2 : V2.cell? ⟨w.heap.size, 2, none⟩ = some (.int .i64 x2) := by rw [blk_cell hb]; rfl
        have e2' : V2.drew.cell? ⟨w.heap.size, 2, none⟩ = some (.int .i64 x2) := e2
        have c2 := HC.out V2 hq
        have c2' := HC.out V2.drew hq
        have HB2 : Hid (V2.drew.heap[w.heap.size]? = some (.cells #[.int .i64 x0, .int .u64 x1, .int .i64 x2] 71 (0, 0))) := hb
        have HQ2 : Hid (QAt V2.drew o l) := hq
        have HK2 := Lib.hid hk.drew
        clear hb hq hk HL2 e0
        go_wp2_with fail
        go_region
        generalize V2.drew = V3 at *
        have HT2 := Lib.hid (HT.out V3 HQ2.out HK2.out HB2.out)
        clear HT HQ2 HK2 HB2
        go_wp2_with fail
        refine HT2.out.mono ?_
        rintro e V4 ⟨⟨v, rfl⟩, q4, k4, b4⟩
        have HQ4 := Lib.hid q4
        have HK4 := Lib.hid k4
        have HB4 := Lib.hid b4
        clear q4 k4 b4
        obtain ⟨g0, g1, g2⟩ : V4.cell? ⟨w.heap.size, 0, none⟩ = some (.int .i64 x0) ∧ V4.cell? ⟨w.heap.size, 1, none⟩ = some (.int .u64 x1) ∧ V4.cell? ⟨w.heap.size, 2, none⟩ = some (.int .i64 x2) := by
          refine ⟨?_, ?_, ?_⟩ <;> (rw [blk_cell HB4.out]; rfl)
        have HI2 := Lib.hid (HI.out V4 HQ4.out HK4.out)
        clear HI HQ4 HK4 HB4
        go_wp2_with fail
        refine HI2.out.mono ?_
        rintro e V5 ⟨⟨v, rfl⟩, hF⟩
        have HF := Lib.hid hF
        clear hF
        go_wp2
        exact HF.out
    · have hh' : has l y.r = false := by simpa using hh
      rw [hh'] at HL
      have HC : Hid (∀ V, QAt V o l → V.cell? ⟨o, 24, none⟩ = some (.int .i64 (l.length : Nat))) := fun V hV => hV.2.count
      by_cases h8 : l.length = 8
      · rw [show putL y l = l by unfold putL; rw [if_neg hh, if_pos h8], show putB y l = false by unfold putB; rw [hh', h8]; rfl] at HP
        have e8 : ((l.length : Nat) : Int) = 8 := by omega
        rw [e8] at HC
        clear h hm hh hh' h8 e8
        generalize idx l y.r = i at *
        obtain ⟨x0, x1, x2⟩ := y
        simp only [wv] at *
        go_enter Tryd.func63, Tryd.ntmps63
        go_wp2_with fail
        refine HM.out.mono ?_
        rintro e V ⟨rfl, hb, hV, _⟩
        have e0 : V.cell? ⟨w.heap.size, 0, none⟩ = some (.int .i64 x0) := by rw [blk_cell hb]; rfl
        have HL2 := Lib.hid (HL.out V hV hb)
        clear HL hb hV
        go_wp2_with fail
        refine (of_any _ _).mono ?_
        rintro e w2 ⟨rfl, rfl⟩
        go_wp2_with fail
        refine HL2.out.mono ?_
        rintro e V2 ⟨rfl, hb, hq, hk⟩
        have HB2 : Hid (V2.drew.heap[w.heap.size]? = some (.cells #[.int .i64 x0, .int .u64 x1, .int .i64 x2] 71 (0, 0))) := hb
        have HQ2 : Hid (QAt V2.drew o l) := hq
        have HK2 := Lib.hid hk.drew
        clear hb hq hk HL2 e0
        go_wp2_with fail
        go_region
        generalize V2.drew = V3 at *
        have c2 := HC.out V3 HQ2.out
        have HF := Lib.hid (HP.out V3 HQ2.out HK2.out)
        go_wp2
        exact HF.out
      · rw [show putL y l = ins y l by unfold putL; rw [if_neg hh, if_neg h8], show putB y l = true by unfold putB; rw [hh']; simp [h8]] at HP
        have d8 : (((l.length : Nat) : Int) == 8) = false := by
          have : ¬ ((l.length : Nat) : Int) = 8 := by omega
          simpa using this
        have d8' : ¬ ((l.length : Nat) : Int) = 8 := by omega
        have HI : Hid (∀ V, QAt V o l → Kept (fun k => k = o) w V → Calls Tryd.prog 76 #[.pointer (some ⟨o, 0, none⟩), .agg #[.int .i64 y.r, .int .u64 y.s, .int .i64 y.p]] V fun e w' => (∃ v, e = .returned v) ∧ P (.returned (.tuple #[.bool true, .int .i64 0])) w') := by
          intro V h5 h6
          refine (ins_any h5 (by have := h.1; omega) y).mono ?_
          rintro e w' ⟨rfl, h7, h8⟩
          exact ⟨⟨_, rfl⟩, HP.out w' h7 (h6.trans h8 (fun k _ e => e))⟩
        clear h hm hh hh' HP h8
        generalize idx l y.r = i at *
        generalize l.length = n at *
        obtain ⟨x0, x1, x2⟩ := y
        simp only [wv] at *
        go_enter Tryd.func63, Tryd.ntmps63
        go_wp2_with fail
        refine HM.out.mono ?_
        rintro e V ⟨rfl, hb, hV, _⟩
        have e0 : V.cell? ⟨w.heap.size, 0, none⟩ = some (.int .i64 x0) := by rw [blk_cell hb]; rfl
        have HL2 := Lib.hid (HL.out V hV hb)
        clear HL hb hV
        go_wp2_with fail
        refine (of_any _ _).mono ?_
        rintro e w2 ⟨rfl, rfl⟩
        go_wp2_with fail
        refine HL2.out.mono ?_
        rintro e V2 ⟨rfl, hb, hq, hk⟩
        have HB2 : Hid (V2.drew.heap[w.heap.size]? = some (.cells #[.int .i64 x0, .int .u64 x1, .int .i64 x2] 71 (0, 0))) := hb
        have HQ2 : Hid (QAt V2.drew o l) := hq
        have HK2 := Lib.hid hk.drew
        clear hb hq hk HL2 e0
        go_wp2_with fail
        go_region
        generalize V2.drew = V3 at *
        have c2 := HC.out V3 HQ2.out
        have HQ4 := HQ2
        have HK4 := HK2
        have HB4 := HB2
        clear HQ2 HK2 HB2
        generalize V3 = V4 at *
        obtain ⟨g0, g1, g2⟩ : V4.cell? ⟨w.heap.size, 0, none⟩ = some (.int .i64 x0) ∧ V4.cell? ⟨w.heap.size, 1, none⟩ = some (.int .u64 x1) ∧ V4.cell? ⟨w.heap.size, 2, none⟩ = some (.int .i64 x2) := by
          refine ⟨?_, ?_, ?_⟩ <;> (rw [blk_cell HB4.out]; rfl)
        have HI2 := Lib.hid (HI.out V4 HQ4.out HK4.out)
        clear HI HQ4 HK4 HB4
        go_wp2_with fail
        refine HI2.out.mono ?_
        rintro e V5 ⟨⟨v, rfl⟩, hF⟩
        have HF := Lib.hid hF
        clear hF
        go_wp2
        exact HF.out
  · have hm' : may y = false := by simpa using hm
    rw [hm'] at HP HM
    simp only [Bool.false_and, Bool.false_eq_true, if_false] at HP
    have HF : Hid (∀ V, Below w.heap.size w V → P (.returned (.tuple #[.bool false, .int .i64 2])) V) := fun V hV => HP.out V (h.kept (kept_of_below hV) id) ((kept_of_below hV).mono (fun _ _ h => h.elim))
    clear h hm hm' HP HL
    obtain ⟨x0, x1, x2⟩ := y
    simp only [wv] at *
    go_enter Tryd.func63, Tryd.ntmps63
    go_wp2_with fail
    refine HM.out.mono ?_
    rintro e V ⟨rfl, _, hV, _⟩
    have HF2 := Lib.hid (HF.out V hV)
    clear hV
    go_wp2
    exact HF2.out
end Go.Proofs.YtlmbbnkdiokabaaDoor
