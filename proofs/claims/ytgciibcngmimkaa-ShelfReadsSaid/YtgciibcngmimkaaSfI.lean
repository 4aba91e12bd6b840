/-
  The shelf's statements: what comes in, and a shelf written on.
-/
import Derived.Test.YtgciibcngmimkaaSfN
import Derived.SizedLaws
namespace Go.Proofs.Ytgciibcngmimkaa
set_option maxRecDepth 100000
set_option linter.unusedSimpArgs false
open Go Go.RowKit Go.ChangeShapes Go.WideShapes Go.Deep Sf

section
variable {H : Type} {enc : TypeId × Value → H} {w : World} {base : Nat} {spare : Nat → Bool} {held : Bool}
theorem rcs_in2 {v : Value} {d : DataW H} {ps : List MemPlace} {r : Reach} {b0 : Nat} (hv : Value.okWide Try.prog w r b0 22 v) (h : DataW.Trod enc Try.prog w base spare held 22 v d ps) :
    ∃ (A : Option Addr) (l : List Rc) (cap : Nat), v = .slice A l.length cap ∧ RsAt w A l ∧ l.length ≤ cap ∧ (l = [] ∨ ∃ els sp, d = .slice els sp ∧ els.length = l.length) := by
  obtain ⟨A, l, cap, rfl, h1, h2, h3⟩ := rcs_in hv h
  refine ⟨A, l, cap, rfl, h1, h2, ?_⟩
  obtain ⟨fuel, hf⟩ := h
  rcases open_slice Try.underlying22 hf with ⟨h0, _⟩ | ⟨a', len', cap', m, n, D, Pl, hcs, hb, hl, hm, hmm, hx, hi⟩
  · have e : (Value.slice A l.length cap) = .slice none 0 0 := by simpa [Value.cells] using h0
    injection e with _ e _
    exact .inl (List.length_eq_zero_iff.1 e)
  · have e : (Value.slice A l.length cap) = .slice (some a') len' cap' := by simpa [Value.cells] using hcs
    injection e with _ e _
    injection hx with hx _
    exact .inr ⟨_, _, hx, by simp [e]⟩
/-- No list that comes in is longer than the machine reaches. -/
theorem few_in {ts : List TypeId} {ds : List (DataW H)} (hr : (DataW.weightsEach Try.prog ts ds).all (· ≤ reachBytes) = true) {j : Nat} (ht : ts[j]? = some 22) {d : DataW H} (hd : ds[j]? = some d) {l : List Rc}
    (h : l = [] ∨ ∃ els sp, d = .slice els sp ∧ els.length = l.length) : l.length ≤ 1000000000000000 := by
  rcases h with rfl | ⟨els, sp, rfl, h⟩
  · simp
  · have := sized_slice hr ht hd Try.underlying22
    have hb : Try.prog.bytesOf 32 = 40 := by kernel_rfl
    have hR : reachBytes < 2 ^ 47 := reachBytes_lt
    rw [hb, h] at this
    omega
theorem rec_in {v : Value} {d : DataW H} {ps : List MemPlace} {r : Reach} {b0 : Nat} (hv : Value.okWide Try.prog w r b0 32 v) (h : DataW.Trod enc Try.prog w base spare held 32 v d ps) :
    ∃ x : Rc, v = recA x.r.k x.r.n x.A x.r.d.length x.cap ∧ RecOk w x.r x.A x.cap := by
  obtain ⟨cs, rfl, hsz⟩ := okWide_struct Try.underlying32 hv
  obtain ⟨fuel, hf⟩ := h
  obtain ⟨l⟩ := cs
  obtain ⟨y, e, hy⟩ := rc_of hf
  have e' : l = _ := e
  exact ⟨y, by rw [e', recA], hy⟩
theorem bytes_in {v : Value} {d : DataW H} {ps : List MemPlace} {r : Reach} {b0 : Nat} (hv : Value.okWide Try.prog w r b0 30 v) (h : DataW.Trod enc Try.prog w base spare held 30 v d ps) :
    ∃ (A : Option Addr) (l : List Nat) (cap : Nat), v = .slice A l.length cap ∧ BsOk w A l cap ∧ l.length ≤ maxLen := by
  obtain ⟨a, len, cap, rfl⟩ := okWide_slice Try.underlying30 hv
  obtain ⟨fuel, hf⟩ := h
  obtain ⟨A, l, cap, e, h1, h2, h3, h4, h5⟩ := bytes_of (by simpa [Value.cells] using hf)
  exact ⟨A, l, cap, e, ⟨h1, h5, h2, h3⟩, by omega⟩
end

theorem RsAt.drop {w : World} {a : Addr} {l : List Rc} (h : RsAt w (some a) l) (n : Nat) : RsAt w (some (a.add (n * 3))) (l.drop n) := by
  intro j hj
  rw [List.length_drop] at hj
  obtain ⟨b, e, h1, h2⟩ := h (n + j) (by omega)
  injection e with e
  subst e
  refine ⟨_, rfl, ?_⟩
  rw [add_add, show n * 3 + j * 3 = (n + j) * 3 by omega, show (l.drop n).getD j default = l.getD (n + j) default by simp [List.getD]]
  exact ⟨h1, h2⟩
/-- l[n:] -/
theorem sl_recs (A : Option Addr) (L cap n : Nat) (h : n ≤ L) (hle : L ≤ cap) : ∃ S2 k2, (S2 = A.map (·.add (n * 3)) ∨ L = n) ∧ L - n ≤ k2 ∧ ∀ U, (Instr.slice 22 (.slice A L cap) (some (.int .i64 (n : Int))) none none).run Try.prog U = .ok (.slice S2 (L - n) k2) U := by
  have e : ((n : Nat) : Int).toNat = n := by omega
  have hr := fun U => run_slice_l U 22 A L cap Try.underlying22 .i64 (n : Int) (by omega) (by omega)
  have hz : ∀ U, (sizeOf (Try.prog.elem 22)).run Try.prog U = .ok 3 U := fun U => by kernel_rfl
  by_cases hc5 : cap = n
  · refine ⟨A, 0, .inr (by omega), by omega, fun U => ?_⟩
    rw [hr, hz]
    simp only [Result.andThen, sliced, e, hc5, if_true, Nat.sub_self]
  · refine ⟨A.map (·.add (n * 3)), cap - n, .inl rfl, by omega, fun U => ?_⟩
    rw [hr, hz]
    simp only [Result.andThen, sliced, e, hc5, if_false, Nat.mul_one]
theorem RsAt.rest {w : World} {A S2 : Option Addr} {l : List Rc} {n : Nat} (h : RsAt w A l) (hn : n ≤ l.length) (hs : S2 = A.map (·.add (n * 3)) ∨ l.length = n) : RsAt w S2 (l.drop n) := by
  intro j hj
  rw [List.length_drop] at hj
  rcases hs with rfl | hs
  · obtain ⟨a, rfl, _⟩ := h (n + j) (by omega)
    exact h.drop n j (by simp; omega)
  · omega
end Go.Proofs.Ytgciibcngmimkaa
