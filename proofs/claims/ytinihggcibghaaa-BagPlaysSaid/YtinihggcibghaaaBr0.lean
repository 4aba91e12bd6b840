/-
  BagPlays: what is known behind the calls of a round, and while the list's bytes are turned.
-/
import Derived.Test.YtinihggcibghaaaBn0b
namespace Go.Proofs.Ytinihggcibghaaa
set_option maxRecDepth 100000
set_option linter.unusedSimpArgs false
open Go Go.RowKit Bg
attribute [local go_sem] Oper.semAt_some

/-- Between two rounds. -/
def PyI (w w1 : World) (o1 o2 j : Nat) (wr : World) : Prop := ∃ b : St, Two w o1 o2 b b (fun _ => False) w1 wr ∧ Bd (600 * j) b
theorem fin_cases (b : St) (n : Int) : (rfV b n = -1 ∧ finX b n = (noFl, false)) ∨ (∃ i : Nat, i < b.l.length ∧ rfV b n = (i : Int) ∧ finX b n = (b.l.getD i noFl, true)) := by
  unfold rfV finX
  cases h : idx b.l n with
  | none => exact .inl ⟨rfl, rfl⟩
  | some i => exact .inr ⟨i, (idx_some h).1, rfl, rfl⟩
section
variable {w V W W' : World} {o1 o2 k : Nat} {b : St} {F : Nat → Prop}
theorem Two.any (h : Two w o1 o2 b b (fun _ => False) V W) (V' : World) : Two w o1 o2 b b (fun _ => False) V' W := by
  obtain ⟨h1, S1, S2, h2, h3, h4, h5, h6, h7⟩ := h
  exact ⟨h1, S1, S2, h2, h3, h4, h5, h6, fun k hk => hk.elim⟩
/-- The document's list, where it lies. -/
theorem Two.ref (h : Two w o1 o2 b b F V W) (hb : Bd k b) : ∃ A cap, AllL W b.l A cap ∧ W.heap[o2]? = some (.cells (objC (.slice A b.l.length cap) b) 32 (0, 0)) := by
  obtain ⟨S, h1, _, _⟩ := h.use2
  obtain ⟨⟨v, E, hE, ho, hw⟩, _, _⟩ := h1
  obtain ⟨A, cap, hv, hc1, hc2, _⟩ := hw.form
  have hlen : E.length = b.l.length := by rw [← hE]; simp
  rw [hlen] at hv
  obtain ⟨q1, q2, _⟩ := hw.q hE hv
  exact ⟨A, cap, ⟨q1, q2, hb.len, fun x hx => (hb.dat x hx).2⟩, by rw [← hv]; exact ho⟩
theorem two2_find (h : Two w o1 o2 b b F V W) (hb : Bd k b) (n : Int) : Calls Try.prog 13 #[.pointer (some ⟨o2, 0, none⟩), .int .i64 n] W fun e w' => e = .returned (.int .i64 (rfV b n)) ∧ W = w' := by
  obtain ⟨S, h1, _, _⟩ := h.use2
  exact rfind_any h1 hb.len n
end

/-- Behind All: the two packets that are compared, the list that was told, the document's. -/
structure Pk (w : World) (o1 o2 : Nat) (b : St) (k bx bw : Nat) (X : Fl) (Ax : Option Addr) (cx : Nat) (Aw : Option Addr) (cw : Nat) (A' : Option Addr) (cap' : Nat) (A : Option Addr) (cap : Nat) (W : World) : Prop where
  two : Two w o1 o2 b b (fun _ => False) w W
  bd : Bd k b
  xb : W.heap[bx]? = some (.cells #[.int .i64 X.n, .int .i64 X.f, .int .i64 X.t, .slice Ax X.d.length cx, .bool X.s] 38 (0, 0))
  wb : W.heap[bw]? = some (.cells #[.int .i64 X.n, .int .i64 X.f, .int .i64 X.t, .slice Aw X.d.length cw, .bool X.s] 38 (0, 0))
  xd : BytesAt W Ax X.d
  wd : BytesAt W Aw X.d
  lt : ∀ c ∈ X.d, c < 256
  all : AllL W b.l A' cap'
  ref : AllL W b.l A cap
  ro : W.heap[o2]? = some (.cells (objC (.slice A b.l.length cap) b) 32 (0, 0))
section
variable {w W W' : World} {o1 o2 k bx bw cx cw cap' cap : Nat} {b : St} {X : Fl} {Ax Aw A' A : Option Addr}
theorem Pk.on (h : Pk w o1 o2 b k bx bw X Ax cx Aw cw A' cap' A cap W) (hb : Below W.heap.size W W') : Pk w o1 o2 b k bx bw X Ax cx Aw cw A' cap' A cap W' :=
  ⟨h.two.later hb, h.bd, (hb.block _ (blk_lt h.xb)).trans h.xb, (hb.block _ (blk_lt h.wb)).trans h.wb, h.xd.below hb, h.wd.below hb, h.lt, h.all.below hb, h.ref.below hb, (hb.block _ (blk_lt h.ro)).trans h.ro⟩
theorem Pk.same (h : Pk w o1 o2 b k bx bw X Ax cx Aw cw A' cap' A cap W) : Calls Try.prog 15 #[.agg #[.int .i64 X.n, .int .i64 X.f, .int .i64 X.t, .slice Ax X.d.length cx, .bool X.s], .agg #[.int .i64 X.n, .int .i64 X.f, .int .i64 X.t, .slice Aw X.d.length cw, .bool X.s]] W fun e w' => e = .returned (.bool true) ∧ Below W.heap.size W w' := by
  refine (same_any X X cx cw h.xd h.wd h.lt h.lt).mono ?_
  rintro e w' ⟨rfl, hb⟩
  exact ⟨by rw [decide_eq_true rfl], hb⟩
theorem Pk.lists (h : Pk w o1 o2 b k bx bw X Ax cx Aw cw A' cap' A cap W) : Calls Try.prog 16 #[.slice A' b.l.length cap', .slice A b.l.length cap] W fun e w' => e = .returned (.bool true) ∧ Below W.heap.size W w' := by
  refine (rall_any h.all h.ref).mono ?_
  rintro e w' ⟨rfl, hb⟩
  exact ⟨by rw [decide_eq_true rfl], hb⟩
end

/-- While the bytes of the list that was told are turned. -/
structure Trn (w : World) (o1 o2 : Nat) (b : St) (N g : Nat) (f : Nat → Option Addr × Nat × Nat) (H : Nat → Prop) (W : World) : Prop where
  two : Two w o1 o2 b b H W W
  cell : ∀ k, k < N → W.cell? ⟨g, k * 5 + 3, none⟩ = some (.slice (f k).1 (f k).2.1 (f k).2.2)
  any : ∀ k, k < N → AnyB W (f k).1 (f k).2.1
  len : ∀ k, k < N → (f k).2.1 ≤ 60
  sep : ∀ k, k < N → 0 < (f k).2.1 → ∀ a, (f k).1 = some a → H a.block ∧ a.block ≠ g ∧ w.heap.size ≤ a.block
theorem AnyB.set {W : World} {A : Option Addr} {n g j : Nat} {z : Int} (h : AnyB W A n) (z' : Int) (_ : W.cell? ⟨g, j, none⟩ = some (.int .u8 z)) : AnyB (W.setCell ⟨g, j, none⟩ (.int .u8 z')) A n := by
  rcases h with h | ⟨q, cur, t, h1, h2, h3, h4⟩
  · exact .inl h
  by_cases e : q = g
  · subst e
    refine .inr ⟨q, _, t, h1, blk_set h2 j _, by simpa using h3, fun i hi => ?_⟩
    rw [Array.getElem?_setIfInBounds]
    split
    · rw [if_pos (by omega)]; exact ⟨z', rfl⟩
    · exact h4 i hi
  · exact .inr ⟨q, cur, t, h1, (Below.heap_setCell _ _ _ _ (by simpa using e)).trans h2, h3, h4⟩
section
variable {w W : World} {o1 o2 N g : Nat} {b : St} {f : Nat → Option Addr × Nat × Nat} {H : Nat → Prop}
theorem Trn.step (h : Trn w o1 o2 b N g f H W) {k j : Nat} (hk : k < N) (hj : j < (f k).2.1) : ∃ (q : Nat) (z : Int), (f k).1 = some ⟨q, 0, none⟩ ∧ W.cell? ⟨q, j, none⟩ = some (.int .u8 z) ∧ W.frozen? ⟨q, j, none⟩ = false ∧ ∀ z' : Int, Trn w o1 o2 b N g f H (W.setCell ⟨q, j, none⟩ (.int .u8 z')) := by
  obtain ⟨q, z, q1, q2, q3, q4⟩ := (h.any k hk).cell hj
  obtain ⟨s1, s2, s3⟩ := h.sep k hk (by omega) _ q1
  refine ⟨q, z, q1, q2, q3, fun z' => ⟨h.two.rewrite (setO W q j _) (fun k hk => by rw [hk]; exact ⟨s1, s3⟩), fun i hi => ?_, fun i hi => (h.any i hi).set z' q2, h.len, h.sep⟩⟩
  exact (World.cell?_of_block (a := ⟨g, i * 5 + 3, none⟩) (Below.heap_setCell W ⟨q, j, none⟩ _ _ (fun e => s2 e.symm))).trans (h.cell i hi)
theorem Trn.drew (h : Trn w o1 o2 b N g f H W) : Trn w o1 o2 b N g f H W.drew := by
  have hb : Below W.heap.size W W.drew := (Below.refl _ W).drew
  refine ⟨(h.two.later hb).back (fun k hk => ⟨hk, h.two.flt hk, rfl⟩), fun k hk => ?_, fun k hk => h.any k hk, h.len, h.sep⟩
  have := h.cell k hk
  exact (hb.cell (World.block_lt_of_cell? W _ this)).trans this
theorem Trn.done (h : Trn w o1 o2 b N g f H W) (V : World) : Two w o1 o2 b b (fun _ => False) V W := (h.two.less (fun _ hk => hk.elim)).any V
end
/-- The list that was told: what may be turned. -/
theorem Told.trn {w V W w' W2 : World} {o1 o2 m : Nat} {b : St} {F : Nat → Prop} {A : Option Addr} {cap : Nat} (hT : Two w o1 o2 b b F V W) (h : Told w o1 o2 b b F V W b.l (.slice A b.l.length cap) w') (hbd : Bd m b) (hb : Below w'.heap.size w' W2) :
    ∃ g f, (0 < b.l.length → A = some ⟨g, 0, none⟩) ∧ Trn w o1 o2 b b.l.length g f (fun k => W.heap.size ≤ k ∧ k < w'.heap.size) W2 := by
  have htwo : Two w o1 o2 b b (fun k => W.heap.size ≤ k ∧ k < w'.heap.size) W2 W2 := by
    have hs := hb.size
    exact (hT.fresh (h.below.trans (hb.mono h.below.size))).less (fun k hk => .inr ⟨hk.1, by omega⟩)
  by_cases hp : 0 < b.l.length
  · obtain ⟨E, h1, h2⟩ := h.own
    have hlen : E.length = b.l.length := by rw [← h1]; simp
    obtain ⟨A', cap', hv, _, _, hg⟩ := h2.form
    obtain ⟨g, rfl⟩ := hg (by omega)
    injection hv with e1 _ e3
    subst e1 e3
    refine ⟨g, fun k => ((E.getD k noE).2.1, (E.getD k noE).1.d.length, (E.getD k noE).2.2), fun _ => rfl, ?_⟩
    have hkb : ∀ k, k < w'.heap.size → W2.heap[k]? = w'.heap[k]? := fun k hk => hb.block k hk
    have h3 : Own W2 (fun k => W.heap.size < k ∧ k < w'.heap.size) W.heap.size (.slice (some ⟨g, 0, none⟩) b.l.length cap) E := h2.same (fun k hk => hkb k hk.2)
    have hmem : ∀ k, k < b.l.length → E.getD k noE ∈ E := fun k hk => by
      rw [List.getD_eq_getElem?_getD, List.getElem?_eq_getElem (by omega)]
      exact List.getElem_mem _
    refine ⟨htwo, fun k hk => ?_, fun k hk => ?_, fun k hk => ?_, fun k hk h0 a ha => ?_⟩
    · obtain ⟨_, _, _, x3, _⟩ := h3.cells (k := k) (by omega)
      exact x3
    · exact row_any (h3.dat _ (hmem k hk)) rfl
    · show (E.getD k noE).1.d.length ≤ 60
      rw [entD h1]
      exact (hbd.at_ hk).1
    · obtain ⟨⟨s1, s2⟩, _, s4⟩ := h3.eo _ (hmem k hk) a.block (by unfold Ent.v; rw [show (E.getD k noE).2.1 = some a from ha]; rfl)
      refine ⟨⟨by omega, s2⟩, fun e => s4 (by rw [e]; rfl), ?_⟩
      have := hT.1.size
      omega
  · exact ⟨0, fun _ => (none, 0, 0), fun h => absurd h hp, htwo, fun k hk => by omega, fun k hk => by omega, fun k hk => by omega, fun k hk => by omega⟩
end Go.Proofs.Ytinihggcibghaaa
