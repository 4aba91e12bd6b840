/-
  The document's bag: Send, Double.
-/
import Derived.Test.YtinihggcibghaaaBl1
import Derived.Test.YtinihggcibghaaaB6
namespace Go.Proofs.Ytinihggcibghaaa
set_option maxRecDepth 100000
set_option linter.unusedSimpArgs false
open Go Go.RowKit Bg
attribute [local go_sem] Oper.semAt_some

set_option maxHeartbeats 1000000 in
theorem rsend_any {w : World} {S : Nat → Prop} {o k : Nat} {b : St} (h : BagAt 32 w S o b) (hb : Bd k b) (hk : k ≤ 900000) (f t : Int) {d : List Nat} {A : Option Addr} {cap : Nat} (hA : BytesAt w A d) (hX : ∀ a, A = some a → 0 < d.length → a.block ≠ o) (hn : A = none → d = [] ∧ cap = 0) (hd : d.length ≤ 100000) :
    Calls Try.prog 34 #[.pointer (some ⟨o, 0, none⟩), .int .i64 f, .int .i64 t, .slice A d.length cap] w fun e w' => e = .returned (.int .i64 (comeV b)) ∧ StepTo 32 w S o (sendS b f t d) w' := by
  have hs := hb.sent
  have HC : Hid (∀ u : Int, u = (b.c.sent : Int) + 1 → Calls Try.prog 46 #[.pointer (some ⟨o, 0, none⟩), .agg #[.int .i64 0, .int .i64 f, .int .i64 t, .slice A d.length cap, .bool false]] (w.setCell ⟨o, 2, none⟩ (.int .i64 u)) fun e w' => e = .returned (.int .i64 (comeV b)) ∧ StepTo 32 w S o (sendS b f t d) w') := fun u hu => by
    refine (rput_any (x := ⟨0, f, t, d, false⟩) (BagAt.set (b' := { b with c := { b.c with sent := b.c.sent + 1 } }) h 2 (.int .i64 u) rfl (fun v => by rw [hu]; simp)) hb.send1 (by omega) (hA.kept2 (setO w o 2 _) hX) hX hn hd).mono ?_
    rintro e w' ⟨rfl, h2⟩
    exact ⟨rfl, h2.from (setS h.so 2 _)⟩
  obtain ⟨A0, cap0, _, ⟨_, _, c2, _⟩, c3⟩ := h.cells
  have c4 := c3 2
  clear c3 h hb hA hX hn hd
  generalize b.c.sent = L at *
  generalize d.length = N at *
  go_enter Try.func34, Try.ntmps34
  go_wp2_with fail
  refine (HC.out _ rfl).mono ?_
  rintro e w' ⟨rfl, hw'⟩
  have HW := Lib.hid hw'
  clear hw'
  go_wp2
  go_ret
  exact ⟨rfl, HW.out⟩

set_option maxHeartbeats 1000000 in
theorem rdbl_any {w : World} {S : Nat → Prop} {o k : Nat} {b : St} (h : BagAt 32 w S o b) (hb : Bd k b) (hk : k ≤ 900000) (n : Int) :
    Calls Try.prog 37 #[.pointer (some ⟨o, 0, none⟩), .int .i64 n] w fun e w' => e = .returned (.tuple #[.int .i64 (dblX b n).1, .int .i64 (dblX b n).2]) ∧ StepTo 32 w S o (dblS b n) w' := by
  have hl := hb.len
  have hd := hb.dbl
  have how := h.lt o h.so
  have HP := Lib.hid (rfind_any h hl n)
  cases hn : idx b.l n with
  | none =>
    have e1 : dblX b n = (0, 80) := by rw [dblX, hn]
    have e2 : dblS b n = b := by rw [dblS, hn]
    have e3 : rfV b n = -1 := by rw [rfV, hn]
    rw [e1, e2]
    rw [e3] at HP
    have HF : Hid (∀ w', Below w.heap.size w w' → StepTo 32 w S o b w') := fun w' hw' => StepTo.still h hw'
    clear h hb
    go_enter Try.func37, Try.ntmps37
    go_wp2_with fail
    refine HP.out.mono ?_
    rintro e w1 ⟨rfl, rfl⟩
    have HB := Lib.hid (HF.out _ (Below.refl _ _))
    go_wp2
    refine bodyPost_ret (results_tmp2 (t := 4) (u := 5) rfl _ _ _) rfl ⟨rfl, HB.out⟩
  | some i =>
    have hi := (idx_some hn).1
    have e1 : dblX b n = (comeV b, 0) := by rw [dblX, hn]
    have e2 : dblS b n = comeS { b with c := { b.c with dbl := b.c.dbl + 1 } } (b.l.getD i noFl).f (b.l.getD i noFl).t (b.l.getD i noFl).d (b.l.getD i noFl).s := by rw [dblS, hn]
    have e3 : rfV b n = ((i : Nat) : Int) := by rw [rfV, hn]
    rw [e1]
    rw [e3] at HP
    have HO : Hid (∀ (w1 : World) (u : Int), u = (b.c.dbl : Int) + 1 → Below w.heap.size w w1 → ∃ g cap A cap1, (w1.cell? ⟨o, 5, none⟩ = some (.int .i64 (b.c.dbl : Nat)) ∧ w1.frozen? ⟨o, 5, none⟩ = false) ∧ (b.l.length ≤ cap ∧ (w1.setCell ⟨o, 5, none⟩ (.int .i64 u)).cell? ⟨o, 0, none⟩ = some (.slice (some ⟨g, 0, none⟩) b.l.length cap)) ∧
        ((w1.setCell ⟨o, 5, none⟩ (.int .i64 u)).cell? ⟨g, i * 5, none⟩ = some (.int .i64 (b.l.getD i noFl).n) ∧ (w1.setCell ⟨o, 5, none⟩ (.int .i64 u)).cell? ⟨g, i * 5 + 1, none⟩ = some (.int .i64 (b.l.getD i noFl).f) ∧ (w1.setCell ⟨o, 5, none⟩ (.int .i64 u)).cell? ⟨g, i * 5 + 2, none⟩ = some (.int .i64 (b.l.getD i noFl).t) ∧ (w1.setCell ⟨o, 5, none⟩ (.int .i64 u)).cell? ⟨g, i * 5 + 3, none⟩ = some (.slice A (b.l.getD i noFl).d.length cap1) ∧ (w1.setCell ⟨o, 5, none⟩ (.int .i64 u)).cell? ⟨g, i * 5 + 4, none⟩ = some (.bool (b.l.getD i noFl).s)) ∧
        Calls Try.prog 46 #[.pointer (some ⟨o, 0, none⟩), .agg #[.int .i64 (b.l.getD i noFl).n, .int .i64 (b.l.getD i noFl).f, .int .i64 (b.l.getD i noFl).t, .slice A (b.l.getD i noFl).d.length cap1, .bool (b.l.getD i noFl).s]] (w1.setCell ⟨o, 5, none⟩ (.int .i64 u)) fun e w' => e = .returned (.int .i64 (comeV b)) ∧ StepTo 32 w S o (dblS b n) w') := by
      intro w1 u hu hB
      have h1 := h.below hB
      obtain ⟨A0, cap0, _, ⟨_, _, _, _, _, c2, _⟩, c3⟩ := h1.cells
      have h2 := BagAt.set (b' := { b with c := { b.c with dbl := b.c.dbl + 1 } }) h1 5 (.int .i64 u) rfl (fun v => by rw [hu]; simp)
      have h20 := h2
      obtain ⟨⟨v, E, hE, ho, hw⟩, _, _⟩ := h2
      have hlen : E.length = b.l.length := by rw [← hE]; simp
      obtain ⟨A3, cap3, rfl, hc1, hc2, hA0⟩ := hw.form
      obtain ⟨g, rfl⟩ := hA0 (by omega)
      have hx := entD hE i
      obtain ⟨a1, a2, a3, a4⟩ := hw.ent (k := i) (by omega)
      obtain ⟨x0, x1, x2, x3, x4⟩ := hw.cells (k := i) (by omega)
      have hbe := hw.eo _ (entM (E := E) (k := i) (by omega))
      obtain ⟨⟨o0, _⟩, _⟩ := eight ho
      have hat := hb.at_ hi
      simp only at hx
      unfold Ent.v at x3 hbe
      rw [hx] at x0 x1 x2 x3 x4 a1 a4
      rw [hlen] at o0 hc1
      refine ⟨g, cap3, _, _, ⟨c2, c3 5⟩, ⟨hc1, o0⟩, ⟨x0, x1, x2, x3, x4⟩, ?_⟩
      refine (rput_any (x := b.l.getD i noFl) h20 hb.dbl1 (by omega) a1 (fun a ha _ e => ?_) a4 (by omega)).mono ?_
      · rw [ha] at hbe
        exact (hbe a.block rfl).2.1 e
      · rintro e w' ⟨rfl, h5⟩
        rw [e2]
        exact ⟨rfl, StepTo.pre hB (h5.from (setS h.so 5 _))⟩
    clear h hb hn e2
    generalize b.l.getD i noFl = x at *
    generalize b.c.dbl = L at *
    generalize b.l.length = N at *
    go_enter Try.func37, Try.ntmps37
    go_wp2_with fail
    refine HP.out.mono ?_
    rintro e w1 ⟨rfl, rfl⟩
    obtain ⟨g, cap, A, cap1, ⟨c1, c2⟩, ⟨hc, o0⟩, ⟨x0, x1, x2, x3, x4⟩, hcall⟩ := HO.out w _ rfl (Below.refl _ _)
    have HCL := Lib.hid hcall
    have i0 : ¬ (i : Int) < 0 := by omega
    clear hcall HO HP
    generalize x.n = xn at *
    generalize x.f = xf at *
    generalize x.t = xt at *
    generalize x.s = xs at *
    generalize x.d.length = xl at *
    go_wp2_with fail
    refine HCL.out.mono ?_
    rintro e w2 ⟨rfl, hst⟩
    have HST := Lib.hid hst
    clear hst
    go_wp2
    refine bodyPost_ret (results_tmp2 (t := 4) (u := 5) rfl _ _ _) rfl ⟨rfl, HST.out⟩
end Go.Proofs.Ytinihggcibghaaa
