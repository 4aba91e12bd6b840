/-
  The law PilePlays: its argument; the two piles side by side.
-/
import Derived.Test.YtdhpphkkpjldfabPRef4
import Derived.Deep.DeepCutAuto
import Derived.Deep.CutRange
import Derived.Deep.CutBlock
namespace Go.Proofs.Ytdhpphkkpjldfab
set_option maxRecDepth 100000
open Go Go.RowKit Pq
open Go.ChangeShapes Go.WideShapes Go.Deep

/-- A list of calls lies there. -/
def OpsAt (w : World) (A : Option Addr) (kd : Nat → Int) (l : List It) : Prop :=
  ∀ k, k < l.length → ∃ a, A = some a ∧ a.block < w.heap.size ∧ w.cell? (a.add (k * 4)) = some (.int .i64 (kd k)) ∧ w.cell? ⟨(a.add (k * 4)).block, (a.add (k * 4)).off + 1, none⟩ = some (.int .i64 (at_ l k).c) ∧ w.cell? ⟨(a.add (k * 4)).block, (a.add (k * 4)).off + 2, none⟩ = some (.int .i64 (at_ l k).t) ∧ w.cell? ⟨(a.add (k * 4)).block, (a.add (k * 4)).off + 3, none⟩ = some (.int .i64 (at_ l k).i)

theorem OpsAt.below {w w' : World} {A : Option Addr} {kd : Nat → Int} {l : List It} (h : OpsAt w A kd l) {B : Nat} (hb : Below B w w') (hB : w.heap.size ≤ B) : OpsAt w' A kd l := by
  intro k hk
  obtain ⟨a, h0, h1, h2, h3, h4, h5⟩ := h k hk
  refine ⟨a, h0, Nat.lt_of_lt_of_le h1 hb.size, ?_, ?_, ?_, ?_⟩
  · rw [hb.cell (by rw [add_block]; omega)]; exact h2
  · rw [hb.cell (by simp only [add_block]; omega)]; exact h3
  · rw [hb.cell (by simp only [add_block]; omega)]; exact h4
  · rw [hb.cell (by simp only [add_block]; omega)]; exact h5

section
variable {H : Type} {enc : TypeId × Value → H} {w : World} {base : Nat} {spare : Nat → Bool} {held : Bool}

theorem op_trod {fuel : Nat} {cs : List Value} {x : DataW H × List MemPlace} (h : DataW.trod enc Try.prog w base spare held fuel 34 cs = some x) : ∃ (kd : Int) (it : It), cs = .int .i64 kd :: it.cs := by
  obtain ⟨xs, n, _, _, hlen, hxl, hf⟩ := DataW.trod_struct Try.underlying34 h
  have hc : Try.prog.cellsOf 34 = 4 := by kernel_rfl
  have hc3 : Try.prog.cellsOf 32 = 3 := by kernel_rfl
  have hci : Try.prog.cellsOf 3 = 1 := by kernel_rfl
  rw [hc] at hlen
  match cs, hlen with
  | [c0, c1, c2, c3], _ =>
    match xs, hxl with
    | [y0, y1], _ =>
      have f0 : DataW.trod enc Try.prog w base spare held n 3 ((([c0, c1, c2, c3] : List Value).drop 0).take (Try.prog.cellsOf 3)) = ([y0, y1] : List _)[0]? := hf 0 _ rfl
      have f1 : DataW.trod enc Try.prog w base spare held n 32 ((([c0, c1, c2, c3] : List Value).drop 1).take (Try.prog.cellsOf 32)) = ([y0, y1] : List _)[1]? := hf 1 _ rfl
      rw [hci] at f0
      rw [hc3] at f1
      obtain ⟨n0, e0, _, w0⟩ := DataW.trod_int Try.underlying3 f0
      obtain ⟨it, e1, _⟩ := item_trod f1
      simp at e0 e1
      exact ⟨n0, it, by rw [e0, ← e1]⟩

theorem ops_in {v : Value} {d : DataW H} {ps : List MemPlace} {r : Reach} {b0 : Nat} (hv : Value.okWide Try.prog w r b0 22 v) (h : DataW.Trod enc Try.prog w base spare held 22 v d ps) :
    ∃ (A : Option Addr) (kd : Nat → Int) (l : List It) (cap : Nat), v = .slice A l.length cap ∧ OpsAt w A kd l := by
  obtain ⟨a, len, cap, rfl⟩ := okWide_slice Try.underlying22 hv
  obtain ⟨fuel, hf⟩ := h
  have hc : Try.prog.cellsOf 34 = 4 := by kernel_rfl
  rcases open_slice Try.underlying22 hf with ⟨h0, _⟩ | ⟨a', len', cap', m, n, D, Pl, hcs, hb, hl, hm, hmm, hx, hi⟩
  · have e : (Value.slice a len cap) = .slice none 0 0 := by simpa [Value.cells] using h0
    cases e
    exact ⟨none, fun _ => 0, [], 0, rfl, fun k hk => by simp at hk⟩
  · have e : (Value.slice a len cap) = .slice (some a') len' cap' := by simpa [Value.cells] using hcs
    cases e
    have hml : len ≤ m := by rw [hmm]; split <;> omega
    have hex : ∀ i, i < len → ∃ (k : Int) (x : It), a'.block < w.heap.size ∧ w.cell? (a'.add (i * 4)) = some (.int .i64 k) ∧ w.cell? ((a'.add (i * 4)).add 1) = some (.int .i64 x.c) ∧ w.cell? ((a'.add (i * 4)).add 2) = some (.int .i64 x.t) ∧ w.cell? ((a'.add (i * 4)).add 3) = some (.int .i64 x.i) := by
      intro i hil
      obtain ⟨cs', hcs', ht⟩ := hi i (by omega)
      rw [hc] at hcs'
      obtain ⟨kd, it, rfl⟩ := op_trod ht
      obtain ⟨_, hcl, hat⟩ := World.cells?_some hcs'
      have h0 := hat 0 (by omega)
      have h1 := hat 1 (by omega)
      have h2 := hat 2 (by omega)
      have h3 := hat 3 (by omega)
      have e0 : (a'.add (i * 4)).add 0 = a'.add (i * 4) := by simp [Addr.add]
      rw [e0] at h0
      refine ⟨kd, it, ?_, h0, h1, h2, h3⟩
      have := World.block_lt_of_cell? w _ h0
      rwa [add_block] at this
    obtain ⟨l, hll, hp⟩ := choose_list (P := fun i x => ∃ k : Int, a'.block < w.heap.size ∧ w.cell? (a'.add (i * 4)) = some (.int .i64 k) ∧ w.cell? ((a'.add (i * 4)).add 1) = some (.int .i64 x.c) ∧ w.cell? ((a'.add (i * 4)).add 2) = some (.int .i64 x.t) ∧ w.cell? ((a'.add (i * 4)).add 3) = some (.int .i64 x.i)) len (by
      intro i hil
      obtain ⟨k, x, hh⟩ := hex i hil
      exact ⟨x, k, hh⟩)
    refine ⟨some a', fun i => if h : i < len then (hp i h).choose else 0, l, cap, by rw [hll], fun k hk => ?_⟩
    have hk' : k < len := by omega
    obtain ⟨h1, h2, h3, h4, h5⟩ := (hp k hk').choose_spec
    exact ⟨a', rfl, h1, by simp only [dif_pos hk']; exact h2, h3, h4, h5⟩
end

/-- The pile, and the document's. -/
def Both (w : World) (b1 b2 : Nat) (r : Option Nat) (sp sr : List It) (os : List (Nat × Obj)) (rs : List (Value × List It)) (wr : World) : Prop :=
  ∃ A, Sys w.heap.size w [⟨b1, 0, r, sp⟩] os rs wr ∧ RefAt wr b2 A sr ∧ w.heap.size ≤ b2 ∧ ¬ Of b1 r b2 ∧ (∀ a, A = some a → ¬ Of b1 r a.block) ∧ (∀ o ∈ os, o.1 ≠ b2) ∧ (∀ v ∈ rs, v.1.ownBlock ≠ some b2) ∧ ∀ v ∈ rs, ∀ a, A = some a → v.1.ownBlock ≠ some a.block

namespace Both
variable {w W W' : World} {b1 b2 : Nat} {r : Option Nat} {sp sr : List It} {os : List (Nat × Obj)} {rs : List (Value × List It)}
theorem grow (h : Both w b1 b2 r sp sr os rs W) (hk : Kept (fun _ => False) W W') : Both w b1 b2 r sp sr os rs W' := by
  obtain ⟨A, h1, h2, h3⟩ := h
  exact ⟨A, h1.grow hk, h2.grow hk, h3⟩
theorem later {C : Nat} (h : Both w b1 b2 r sp sr os rs W) (hb : Below C W W') (hC : W.heap.size ≤ C) : Both w b1 b2 r sp sr os rs W' := h.grow (Kept.of_below hb hC)
theorem alloc0 (h : Both w b1 b2 r sp sr os rs W) (o : Obj) : Both w b1 b2 r sp sr os rs (W.alloc o) := h.grow ((Kept.refl _ W).alloc o)
theorem drewN (h : Both w b1 b2 r sp sr os rs W) (n : Nat) : Both w b1 b2 r sp sr os rs (W.drewN n) := h.grow ((Kept.refl _ W).drewN n)
theorem below (h : Both w b1 b2 r sp sr os rs W) : Below w.heap.size w W := by obtain ⟨A, h1, _⟩ := h; exact h1.below
theorem alloc (h : Both w b1 b2 r sp sr os rs W) (o : Obj) : Both w b1 b2 r sp sr ((W.heap.size, o) :: os) rs (W.alloc o) := by
  obtain ⟨A, h1, h2, h3, h4, h5, h6, h7, h8⟩ := h
  refine ⟨A, h1.alloc o, h2.grow ((Kept.refl _ W).alloc o), h3, h4, h5, fun x hx => ?_, h7, h8⟩
  rcases List.mem_cons.1 hx with rfl | hx
  · have := h2.lt; simp only; omega
  · exact h6 x hx
theorem less (h : Both w b1 b2 r sp sr os rs W) {os' : List (Nat × Obj)} {rs' : List (Value × List It)} (ho : ∀ o ∈ os', o ∈ os) (hr : ∀ v ∈ rs', v ∈ rs) : Both w b1 b2 r sp sr os' rs' W := by
  obtain ⟨A, h1, h2, h3, h4, h5, h6, h7, h8⟩ := h
  exact ⟨A, h1.less ho hr, h2, h3, h4, h5, fun o hx => h6 o (ho o hx), fun v hv => h7 v (hr v hv), fun v hv => h8 v (hr v hv)⟩
theorem pile (h : Both w b1 b2 r sp sr os rs W) : PileS W b1 0 r sp := by
  obtain ⟨A, h1, _⟩ := h
  exact (h1.pile 0 _ rfl).1
theorem sys (h : Both w b1 b2 r sp sr os rs W) : Sys w.heap.size w [⟨b1, 0, r, sp⟩] os rs W := by
  obtain ⟨A, h1, _⟩ := h
  exact h1
theorem ref (h : Both w b1 b2 r sp sr os rs W) : ∃ A, RefAt W b2 A sr := by
  obtain ⟨A, _, h2, _⟩ := h
  exact ⟨A, h2⟩

/-- The pile's step. -/
theorem stepP (h : Both w b1 b2 r sp sr os rs W) {r' : Option Nat} {sp' : List It} {rs' : List (Value × List It)} (g1 : Sys w.heap.size w [⟨b1, 0, r', sp'⟩] os rs' W') (g2 : Kp b1 0 r W W') (g3 : Newer W r r')
    (hrs : ∀ v ∈ rs', v ∈ rs ∨ ∀ g, v.1.ownBlock = some g → W.heap.size ≤ g) : Both w b1 b2 r' sp' sr os rs' W' := by
  obtain ⟨A, h1, h2, h3, h4, h5, h6, h7, h8⟩ := h
  have hnew : ∀ k, k < W.heap.size → Of b1 r' k → Of b1 r k := by
    rintro k hk (e | e)
    · exact .inl e
    · rcases g3 k e with e2 | e2
      · exact .inr e2
      · omega
  refine ⟨A, g1, h2.kept g2.kept h4 (fun a e => h5 a e), h3, fun hof => h4 (hnew _ h2.lt hof), fun a e hof => h5 a e (hnew _ (h2.far a e).2 hof), h6, fun v hv e => ?_, fun v hv a ea e => ?_⟩
  · rcases hrs v hv with hv | hv
    · exact h7 v hv e
    · have := hv b2 e; have := h2.lt; omega
  · rcases hrs v hv with hv | hv
    · exact h8 v hv a ea e
    · have := hv _ e; have := (h2.far a ea).2; omega
theorem push (h : Both w b1 b2 r sp sr os rs W) {x : It} {e : Ending} (hq : PushS W b1 0 r sp x e W') : ∃ r', Both w b1 b2 r' (ins x sp) sr os rs W' := by
  obtain ⟨he, r', h1, h2, h3⟩ := hq
  refine ⟨r', h.stepP (h.sys.step (i := 0) rfl h2 h1 h3) h2 h3 (fun v hv => .inl hv)⟩
theorem pop (h : Both w b1 b2 r sp sr os rs W) {x : It} {s : List It} {e : Ending} (hq : PopS W b1 0 r x s e W') : Both w b1 b2 r s sr os rs W' := by
  obtain ⟨he, h1, h2⟩ := hq
  exact h.stepP (h.sys.step (i := 0) rfl h2 h1 (fun k e => .inl e)) h2 (fun k e => .inl e) (fun v hv => .inl hv)
theorem least (h : Both w b1 b2 r sp sr os rs W) {m : Nat} {e : Ending} (hq : LeastPost W b1 0 r sp m e W') : ∃ v, e = .returned v ∧ Both w b1 b2 r (sp.drop m) sr os ((v, sp.take m) :: rs) W' := by
  obtain ⟨v, he, h1, h2, h3⟩ := id hq
  obtain ⟨v', he', hS⟩ := h.sys.least (i := 0) rfl hq
  rw [he] at he'
  injection he' with he'
  subst he'
  refine ⟨v, he, h.stepP hS h3 (fun k e => .inl e) (fun u hu => ?_)⟩
  rcases List.mem_cons.1 hu with rfl | hu
  · exact .inr (fun g hg => (h1.lt g hg).1)
  · exact .inl hu
theorem all (h : Both w b1 b2 r sp sr os rs W) {e : Ending} (hq : AllPost W sp e W') : ∃ v, e = .returned v ∧ Both w b1 b2 r sp sr os ((v, sp) :: rs) W' := by
  obtain ⟨v, he, h1, h2⟩ := id hq
  obtain ⟨v', he', hS⟩ := h.sys.all (i := 0) rfl hq
  rw [he] at he'
  injection he' with he'
  subst he'
  refine ⟨v, he, h.stepP hS (Kp.below h2 (Nat.le_refl _) (h.pile.lt _ (.inl rfl))) (fun k e => .inl e) (fun u hu => ?_)⟩
  rcases List.mem_cons.1 hu with rfl | hu
  · exact .inr (fun g hg => (h1.lt g hg).1)
  · exact .inl hu

/-- The document's step. -/
theorem stepR {A : Option Addr} (h : Sys w.heap.size w [⟨b1, 0, r, sp⟩] os rs W ∧ RefAt W b2 A sr ∧ w.heap.size ≤ b2 ∧ ¬ Of b1 r b2 ∧ (∀ a, A = some a → ¬ Of b1 r a.block) ∧ (∀ o ∈ os, o.1 ≠ b2) ∧ (∀ v ∈ rs, v.1.ownBlock ≠ some b2) ∧ ∀ v ∈ rs, ∀ a, A = some a → v.1.ownBlock ≠ some a.block) {A' : Option Addr} {sr' : List It} (hr : RefAt W' b2 A' sr') (hk : Kept (fun k => k = b2) W W') (hA : ∀ a, A' = some a → W.heap.size ≤ a.block ∨ ∃ a0, A = some a0 ∧ a.block = a0.block) : Both w b1 b2 r sp sr' os rs W' := by
  obtain ⟨h1, h2, h3, h4, h5, h6, h7, h8⟩ := h
  have hlt := (h1.pile 0 _ rfl).1.lt
  refine ⟨A', ⟨h1.below.trans (hk.below (fun k e => by rw [e]; exact h3) h1.le), h1.size, fun i p hp => ?_, h1.apart, fun o ho => ?_, fun v hv => ?_⟩, hr, h3, h4, fun a e hof => ?_, h6, h7, fun v hv a e e2 => ?_⟩
  · obtain ⟨g1, g2⟩ := h1.pile i p hp
    refine ⟨g1.kept hk (fun k hof e => ?_), g2⟩
    subst e
    cases i with
    | zero => simp at hp; subst hp; exact h4 hof
    | succ i => simp at hp
  · obtain ⟨g1, g2⟩ := h1.obj o ho
    exact ⟨(hk.block _ (blk_lt g1) (h6 o ho)).trans g1, g2⟩
  · obtain ⟨g1, g2⟩ := h1.row v hv
    exact ⟨hk.row g1 (fun g hg e => h7 v hv (by rw [hg, e])), g2⟩
  · rcases hA a e with h9 | ⟨a0, e0, h9⟩
    · have := hlt _ hof; omega
    · rw [h9] at hof; exact h5 a0 e0 hof
  · rcases hA a e with h9 | ⟨a0, e0, h9⟩
    · have := ((h1.row v hv).1.lt _ e2).2; omega
    · rw [h9] at e2; exact h8 v hv a0 e0 e2
theorem rpush (h : Both w b1 b2 r sp sr os rs W) {x : It} {e : Ending} (hq : RPush W b2 sr x e W') : Both w b1 b2 r sp (ins x sr) os rs W' := by
  obtain ⟨_, A, h1, h2, h3⟩ := hq
  obtain ⟨A0, h0⟩ := h
  exact stepR h0 h1 h2 (fun a e => .inl (h3 a e))
/-- The document's Least, and what it tells. -/
theorem rleast (h : Both w b1 b2 r sp sr os rs W) (hl : sr.length ≤ 9999) (m : Int) :
    Calls Try.prog 13 #[.pointer (some ⟨b2, 0, none⟩), .int .i64 m] W fun e W' => ∃ v A2 cap, e = .returned v ∧ v = .slice A2 (sr.take m.toNat).length cap ∧ ItemsAt W' A2 (sr.take m.toNat) ∧ Both w b1 b2 r sp (sr.drop m.toNat) os rs W' := by
  obtain ⟨A, h0⟩ := h
  refine (rleast_any h0.2.1 hl m).mono ?_
  rintro e W' ⟨v, A', he, ho, hr, hk, hA⟩
  have hI : ∃ A2 cap, v = .slice A2 (sr.take m.toNat).length cap ∧ ItemsAt W' A2 (sr.take m.toNat) := by
    rcases ho.2 with ⟨rfl, h0⟩ | ⟨g, cap, cur, rfl, _⟩
    · exact ⟨none, 0, by rw [h0], fun k hk => by omega⟩
    · exact ⟨_, cap, rfl, row_items ho⟩
  obtain ⟨A2, cap, hv, hi⟩ := hI
  refine ⟨v, A2, cap, he, hv, hi, stepR h0 hr hk (fun a e => .inr ?_)⟩
  obtain ⟨a0, e0, e1, _⟩ := hA a e
  exact ⟨a0, e0, e1⟩
/-- A list that was told is turned: nothing else is. -/
theorem row (h : Both w b1 b2 r sp sr os rs W) {v : Value × List It} (hv : v ∈ rs) (hk : Kept (fun k => some k = v.1.ownBlock) W W') : Both w b1 b2 r sp sr [] [] W' := by
  obtain ⟨A, h1, h2, h3, h4, h5, h6, h7, h8⟩ := h
  obtain ⟨g1, g2⟩ := h1.row v hv
  refine ⟨A, ⟨h1.below.trans (hk.below (fun k e => (g1.lt k e.symm).1) h1.le), h1.size, fun i p hp => ?_, h1.apart, fun o ho => (by cases ho), fun v hv => (by cases hv)⟩, h2.kept hk (fun e => h7 v hv e.symm) (fun a ea e => h8 v hv a ea e.symm), h3, h4, h5, fun o ho => (by cases ho), fun v hv => (by cases hv), fun v hv => (by cases hv)⟩
  obtain ⟨p1, p2⟩ := h1.pile i p hp
  exact ⟨p1.kept hk (fun k hof e => g2 i p hp k e.symm hof), p2⟩
end Both
end Go.Proofs.Ytdhpphkkpjldfab
