/-
  A packet comes into a bag.
-/
import Derived.Test.YtinihggcibghaaaB1
import Derived.Deep.RegionLaw
namespace Go.Proofs.Ytinihggcibghaaa
set_option maxRecDepth 100000
set_option linter.unusedSimpArgs false
open Go Go.RowKit Bg
attribute [local go_sem] Oper.semAt_some

theorem Own.snoc {V w2 : World} {N : Nat} {S S' : Nat → Prop} {o : Nat} {v v2 : Value} {E : List Ent} {e : Ent} (h : Own V S o v E) (hol : o < N) (hlt : ∀ k, S k → k < N) (hN : N ≤ V.heap.size) (hn : V.ownsRow N 5 1 (Ent.v e) e.1.d.length (e.1.d.map byV))
    (hg : Kept (fun k => v.ownBlock = some k) V w2) (ho2 : w2.ownsRow 0 38 5 v2 (E.length + 1) (csE (E ++ [e]))) (hat : v2.ownBlock = v.ownBlock ∨ ∀ k, v2.ownBlock = some k → V.heap.size ≤ k) (hS : ∀ k, S k → S' k) (hS2 : ∀ k, N ≤ k → k < w2.heap.size → S' k) (u : Value) :
    Own (w2.setCell ⟨o, 0, none⟩ u) S' o v2 (E ++ [e]) := by
  have hset : Kept (fun k => k = o) w2 (w2.setCell ⟨o, 0, none⟩ u) := (Kept.refl (fun k => k = o) w2).setCell (p := ⟨o, 0, none⟩) (.inl rfl) u
  have hsz2 := hg.size
  have hv2 : ∀ g, v2.ownBlock = some g → S' g ∧ g ≠ o ∧ (v.ownBlock = some g ∨ V.heap.size ≤ g) := by
    intro g hgg
    rcases hat with h1 | h1
    · rw [h1] at hgg
      exact ⟨hS _ (h.vo g hgg).1, (h.vo g hgg).2, .inl hgg⟩
    · have := h1 g hgg
      exact ⟨hS2 g (by omega) (ho2.lt g hgg).2, by omega, .inr this⟩
  have hne : ∀ g, (Ent.v e).ownBlock = some g → N ≤ g ∧ g < V.heap.size := fun g hgg => hn.lt g hgg
  refine ⟨?_, ?_, fun g hgg => ⟨(hv2 g hgg).1, (hv2 g hgg).2.1⟩, ?_, ?_⟩
  · have := hset.row ho2 (fun g hgg => (hv2 g hgg).2.1)
    simpa using this
  · intro x hx
    rcases List.mem_append.1 hx with hx | hx
    · refine hset.row (hg.row (h.dat x hx) ?_) ?_
      · exact fun g hgg => (h.eo x hx g hgg).2.2
      · exact fun g hgg => (h.eo x hx g hgg).2.1
    · rw [List.mem_singleton] at hx
      subst hx
      refine row_base (hset.row (hg.row hn ?_) ?_) (Nat.zero_le _)
      · exact fun g hgg hvg => by have := hlt g (h.vo g hvg).1; have := (hne g hgg).1; omega
      · exact fun g hgg => by have := (hne g hgg).1; omega
  · intro x hx g hgg
    rcases List.mem_append.1 hx with hx | hx
    · obtain ⟨h1, h2, h3⟩ := h.eo x hx g hgg
      refine ⟨hS _ h1, h2, fun hvg => ?_⟩
      rcases (hv2 g hvg).2.2 with h4 | h4
      · exact h3 h4
      · have := hlt g h1; omega
    · rw [List.mem_singleton] at hx
      subst hx
      obtain ⟨h1, h2⟩ := hne g hgg
      refine ⟨hS2 g h1 (by omega), by omega, fun hvg => ?_⟩
      rcases (hv2 g hvg).2.2 with h4 | h4
      · have := hlt g (h.vo g h4).1; omega
      · omega
  · unfold Apart
    rw [List.map_append, List.pairwise_append]
    refine ⟨h.apart, by simp, ?_⟩
    intro a ha c hc g hag hcg
    obtain ⟨x, hx, rfl⟩ := List.mem_map.1 ha
    simp at hc
    subst hc
    have := hlt g (h.eo x hx g hag).1
    have := (hne g hcg).1
    omega

theorem new_cells5 (w : World) (a b c d e : Value) {B : Nat} {t : TypeId} (hB : B = w.heap.size) : ∀ k u, [a, b, c, d, e][k]? = some u → (w.alloc (.cells #[a, b, c, d, e] t)).cell? ((⟨B, 0, none⟩ : Addr).add k) = some u := by
  subst hB
  intro k u hk
  match k, hk with
  | 0, hk => simp at hk; subst hk; simp [Addr.add]
  | 1, hk => simp at hk; subst hk; simp [Addr.add]
  | 2, hk => simp at hk; subst hk; simp [Addr.add]
  | 3, hk => simp at hk; subst hk; simp [Addr.add]
  | 4, hk => simp at hk; subst hk; simp [Addr.add]
theorem Own.obj {w w' : World} {S : Nat → Prop} {o : Nat} {v : Value} {E : List Ent} (h : Own w S o v E) (hk : Kept (fun k => k = o) w w') : Own w' S o v E :=
  ⟨hk.row h.row (fun g hg => (h.vo g hg).2), fun e he => hk.row (h.dat e he) (fun g hg => (h.eo e he g hg).2.1), h.vo, h.eo, h.apart⟩
theorem setO (w : World) (o j : Nat) (u : Value) : Kept (fun k => k = o) w (w.setCell ⟨o, j, none⟩ u) := (Kept.refl (fun k => k = o) w).setCell (p := ⟨o, j, none⟩) (.inl rfl) u
/-- A number of a bag turns. -/
theorem BagAt.set {t : TypeId} {w : World} {S : Nat → Prop} {o : Nat} {b b' : St} (h : BagAt t w S o b) (j : Nat) (u : Value) (hl : b'.l = b.l) (hj : ∀ v, (objC v b).setIfInBounds j u = objC v b') : BagAt t (w.setCell ⟨o, j, none⟩ u) S o b' := by
  obtain ⟨⟨v, E, h1, h2, h3⟩, h4, h5⟩ := h
  refine ⟨⟨v, E, by rw [hl]; exact h1, ?_, h3.obj (setO w o j u)⟩, h4, fun k hk => by simpa using h5 k hk⟩
  rw [blk_set h2, hj]
theorem BagAt.step {t : TypeId} {w : World} {S : Nat → Prop} {o : Nat} {b b' : St} (h : BagAt t w S o b) (j : Nat) (u : Value) (hl : b'.l = b.l) (hj : ∀ v, (objC v b).setIfInBounds j u = objC v b') : StepTo t w S o b' (w.setCell ⟨o, j, none⟩ u) :=
  ⟨(setO w o j u).mono (fun k _ e => by rw [e]; exact h.so), S, h.set j u hl hj, fun _ h => h, fun _ h => .inl h⟩
theorem BagAt.cells {t : TypeId} {w : World} {S : Nat → Prop} {o : Nat} {b : St} (h : BagAt t w S o b) : ∃ A cap, (b.l.length ≤ cap ∧ cap ≤ maxLen ∧ (0 < b.l.length → ∃ g, A = some ⟨g, 0, none⟩)) ∧ (w.cell? ⟨o, 0, none⟩ = some (.slice A b.l.length cap) ∧ w.cell? ⟨o, 1, none⟩ = some (.int .i64 (b.last : Nat)) ∧ w.cell? ⟨o, 2, none⟩ = some (.int .i64 (b.c.sent : Nat)) ∧ w.cell? ⟨o, 3, none⟩ = some (.int .i64 (b.c.del : Nat)) ∧ w.cell? ⟨o, 4, none⟩ = some (.int .i64 (b.c.drp : Nat)) ∧ w.cell? ⟨o, 5, none⟩ = some (.int .i64 (b.c.dbl : Nat)) ∧ w.cell? ⟨o, 6, none⟩ = some (.int .i64 (b.c.spt : Nat)) ∧ w.cell? ⟨o, 7, none⟩ = some (.int .i64 (b.c.lost : Nat))) ∧ ∀ j, w.frozen? ⟨o, j, none⟩ = false := by
  obtain ⟨⟨v, E, h1, h2, h3⟩, h4, h5⟩ := h
  obtain ⟨A, cap, rfl, hf⟩ := h3.form
  have hlen : E.length = b.l.length := by rw [← h1]; simp
  rw [hlen] at h2 hf
  exact ⟨A, cap, hf, eight h2⟩

set_option maxHeartbeats 1000000 in
theorem come_full {w : World} {S : Nat → Prop} {o k : Nat} {b : St} (h : BagAt 29 w S o b) (hb : Bd k b) (hk : k ≤ 1000000) (hf : 256 ≤ b.l.length) (x : Fl) (A : Option Addr) (n cap : Nat) :
    Calls Try.prog 43 #[.pointer (some ⟨o, 0, none⟩), flA x (.slice A n cap)] w fun e w' => e = .returned (.int .i64 0) ∧ StepTo 29 w S o { b with c := { b.c with lost := b.c.lost + 1 } } w' := by
  have hlost := hb.lost
  have HF : Hid (∀ x : Obj, StepTo 29 w S o { b with c := { b.c with lost := b.c.lost + 1 } } ((w.alloc x).setCell ⟨o, 7, none⟩ (.int .i64 ((b.c.lost : Int) + 1)))) := fun x =>
    StepTo.pre ((Below.refl _ w).alloc (Nat.le_refl _) x) ((h.alloc x).step 7 _ rfl (fun v => by simp))
  have HC : Hid (∀ x : Obj, ∃ A cap, ((w.alloc x).cell? ⟨o, 0, none⟩ = some (.slice A b.l.length cap) ∧ (w.alloc x).cell? ⟨o, 7, none⟩ = some (.int .i64 (b.c.lost : Nat))) ∧ ∀ j, (w.alloc x).frozen? ⟨o, j, none⟩ = false) := fun x => by
    obtain ⟨A, cap, _, h1, h2⟩ := (h.alloc x).cells
    exact ⟨A, cap, ⟨h1.1, h1.2.2.2.2.2.2.2⟩, h2⟩
  clear h hb
  generalize b.c.lost = L at *
  generalize b.l.length = N at *
  obtain ⟨n1, f1, t1, d1, s1⟩ := x
  show Calls _ _ #[_, .agg #[.int .i64 n1, .int .i64 f1, .int .i64 t1, .slice A n cap, .bool s1]] _ _
  obtain ⟨A2, cap2, ⟨c1, c2⟩, c3⟩ := HC.out (.cells #[.int .i64 n1, .int .i64 f1, .int .i64 t1, .slice A n cap, .bool s1] 38)
  have c4 := c3 7
  clear c3
  go_enter Try.func43, Try.ntmps43
  go_wp2
  go_ret
  exact ⟨rfl, HF.out _⟩

set_option maxHeartbeats 1000000 in
theorem come_room {w : World} {S : Nat → Prop} {o k : Nat} {b : St} (h : BagAt 29 w S o b) (hb : Bd k b) (hk : k ≤ 1000000) (hf : b.l.length < 256) (x : Fl) {A : Option Addr} {cap : Nat} (hA : BytesAt w A x.d) (hX : ∀ a, A = some a → 0 < x.d.length → a.block ≠ o) (hn : A = none → x.d = [] ∧ cap = 0) (hd : x.d.length ≤ 100000) :
    Calls Try.prog 43 #[.pointer (some ⟨o, 0, none⟩), flA x (.slice A x.d.length cap)] w fun e w' => e = .returned (.int .i64 ((b.last + 1 : Nat) : Int)) ∧ StepTo 29 w S o { b with l := b.l ++ [⟨((b.last + 1 : Nat) : Int), x.f, x.t, x.d, x.s⟩], last := b.last + 1 } w' := by
  have hlast := hb.last
  have hol := h.lt o h.so
  obtain ⟨b1, hb1⟩ : ∃ b1 : St, b1 = { b with last := b.last + 1 } := ⟨_, rfl⟩
  have HF : Hid (∀ (x : Obj) (u : Int), u = (b.last : Int) + 1 → BagAt 29 ((w.setCell ⟨o, 1, none⟩ (.int .i64 u)).alloc x) S o b1) := fun x u hu => by
    rw [hb1]; exact (BagAt.set (b' := { b with last := b.last + 1 }) h 1 (.int .i64 u) rfl (fun v => by rw [hu]; simp)).alloc x
  have HL : Hid (∀ (y : Obj) (u : Value), Calls Try.prog 40 #[flA x (.slice A x.d.length cap)] ((w.setCell ⟨o, 1, none⟩ u).alloc y) fun e w' => ∃ A' cap', e = .returned (flA x (.slice A' x.d.length cap')) ∧ w'.ownsRow (w.heap.size + 1) 5 1 (.slice A' x.d.length cap') x.d.length (x.d.map byV) ∧ Below (w.heap.size + 1) ((w.setCell ⟨o, 1, none⟩ u).alloc y) w') := fun y u => by
    have hk1 : Kept (fun k => k = o) w ((w.setCell ⟨o, 1, none⟩ u).alloc y) := (setO w o 1 u).alloc y
    refine (like_any x (hA.kept2 hk1 hX) hn hd).mono ?_
    rintro e w' ⟨v', rfl, h1, h2⟩
    obtain ⟨A', cap', rfl, _⟩ := row_bytes h1
    simp only [World.size_setCell, World.size_alloc] at h1 h2
    exact ⟨A', cap', rfl, h1, h2⟩
  have HC : Hid (∀ x : Obj, ∃ A cap, ((w.alloc x).cell? ⟨o, 0, none⟩ = some (.slice A b.l.length cap) ∧ (w.alloc x).cell? ⟨o, 1, none⟩ = some (.int .i64 (b.last : Nat))) ∧ ∀ j, (w.alloc x).frozen? ⟨o, j, none⟩ = false) := fun x => by
    obtain ⟨A, cap, _, h1, h2⟩ := (h.alloc x).cells
    exact ⟨A, cap, ⟨h1.1, h1.2.1⟩, h2⟩
  have HH := Lib.hid h
  have HXX : Hid (b.l = b1.l ∧ b.last + 1 = b1.last) := by rw [hb1]; exact ⟨rfl, rfl⟩
  clear h hb hA hX hn
  obtain ⟨n1, f1, t1, d1, s1⟩ := x
  show Calls _ _ #[_, .agg #[.int .i64 n1, .int .i64 f1, .int .i64 t1, .slice A d1.length cap, .bool s1]] _ _
  obtain ⟨A2, cap2, ⟨c1, c2⟩, c3⟩ := HC.out (.cells #[.int .i64 n1, .int .i64 f1, .int .i64 t1, .slice A d1.length cap, .bool s1] 38)
  have c4 := c3 1
  clear c3
  go_enter Try.func43, Try.ntmps43
  go_wp2_with fail
  refine (HL.out _ _).mono ?_
  rintro e w2 ⟨A', cap', rfl, hr, hbe⟩
  have hq : w2.heap[w.heap.size]? = some (.cells #[.int .i64 n1, .int .i64 f1, .int .i64 t1, .slice A d1.length cap, .bool s1] 38 (0, 0)) := by
    rw [hbe.block _ (by omega)]; have := World.alloc_heap_new (w.setCell ⟨o, 1, none⟩ (.int .i64 ((b.last : Int) + 1))) (.cells #[.int .i64 n1, .int .i64 f1, .int .i64 t1, .slice A d1.length cap, .bool s1] 38); rwa [World.size_setCell] at this
  have HB := Lib.hid ((HF.out _ _ rfl).below (hbe.mono (by simp)))
  obtain ⟨A3, cap3, _, ⟨k0, k1, _⟩, k3⟩ := HB.out.cells
  obtain ⟨⟨q0, q1, q2, q3, q4⟩, g0, g1, g2, g3, g4⟩ := five hq
  have HQ := Lib.hid hq
  clear hq k3
  go_wp2
  obtain ⟨V, hV⟩ : ∃ V, V = (((((w2.setCell ⟨w.heap.size, 0, none⟩ (.int .i64 n1)).setCell ⟨w.heap.size, 1, none⟩ (.int .i64 f1)).setCell ⟨w.heap.size, 2, none⟩ (.int .i64 t1)).setCell ⟨w.heap.size, 3, none⟩ (.slice A' d1.length cap')).setCell ⟨w.heap.size, 4, none⟩ (.bool s1)).setCell ⟨w.heap.size, 0, none⟩ (.int .i64 ((b.last : Int) + 1)) := ⟨_, rfl⟩
  rw [← hV]
  have hk2 : Kept (fun k => k = w.heap.size) w2 V := by
    rw [hV]
    exact ((((((Kept.refl (fun k => k = w.heap.size) w2).setCell (p := ⟨w.heap.size, 0, none⟩) (.inl rfl) _).setCell (p := ⟨w.heap.size, 1, none⟩) (.inl rfl) _).setCell (p := ⟨w.heap.size, 2, none⟩) (.inl rfl) _).setCell (p := ⟨w.heap.size, 3, none⟩) (.inl rfl) _).setCell (p := ⟨w.heap.size, 4, none⟩) (.inl rfl) _).setCell (p := ⟨w.heap.size, 0, none⟩) (.inl rfl) _
  have hVQ : V.heap[w.heap.size]? = some (.cells #[.int .i64 ((b.last : Int) + 1), .int .i64 f1, .int .i64 t1, .slice A' d1.length cap', .bool s1] 38 (0, 0)) := by
    rw [hV, blk_set (blk_set (blk_set (blk_set (blk_set (blk_set HQ.out 0 _) 1 _) 2 _) 3 _) 4 _) 0 _]
    rfl
  have hlt := HH.out.lt
  have hVB := HB.out.kept hk2 (fun k hk e => by have := hlt k hk; omega)
  have hVr := hk2.row hr (fun g hg => by have := (hr.lt g hg).1; omega)
  clear hV k0 k1 q0 q1 q2 q3 q4 g0 g1 g2 g3 g4 c1 c2 c4
  obtain ⟨⟨v, E, hE, ho, hw⟩, hso, hlt2⟩ := hVB
  have hE' : E.length < 256 := by have h1 := congrArg List.length hE; rw [← HXX.out.1] at h1; simp at h1; omega
  obtain ⟨e', he'⟩ : ∃ e' : Ent, e' = (⟨(b.last : Int) + 1, f1, t1, d1, s1⟩, A', cap') := ⟨_, rfl⟩
  have hcs : csE (E ++ [e']) = csE E ++ [.int .i64 ((b.last : Int) + 1), .int .i64 f1, .int .i64 t1, .slice A' d1.length cap', .bool s1] := by
    rw [csE_append, he']; simp [csE, Fl.cs, Ent.v]
  have HS : Hid (∀ t' w3 g cap2, ((V.drew).alloc (.cells #[.int .i64 ((b.last : Int) + 1), .int .i64 f1, .int .i64 t1, .slice A' d1.length cap', .bool s1] t')).grownBy w3 v.ownBlock →
      w3.ownsRow 0 38 5 (.slice (some ⟨g, 0, none⟩) (E.length + 1) cap2) (E.length + 1) (csE E ++ [.int .i64 ((b.last : Int) + 1), .int .i64 f1, .int .i64 t1, .slice A' d1.length cap', .bool s1]) → (v.ownBlock = some g ∨ g = V.heap.size + 1) →
      (w3.cell? ⟨o, 0, none⟩ = some v ∧ w3.frozen? ⟨o, 0, none⟩ = false) ∧ (w3.setCell ⟨o, 0, none⟩ (.slice (some ⟨g, 0, none⟩) (E.length + 1) cap2)).cell? ⟨w.heap.size, 0, none⟩ = some (.int .i64 ((b.last : Int) + 1)) ∧
      StepTo 29 w S o { b with l := b.l ++ [⟨((b.last + 1 : Nat) : Int), f1, t1, d1, s1⟩], last := b.last + 1 } (w3.setCell ⟨o, 0, none⟩ (.slice (some ⟨g, 0, none⟩) (E.length + 1) cap2))) := by
    intro t' w3 g cap2 hg ho2 hat
    have hol2 := blk_lt ho
    have hwz : w.heap.size < V.heap.size := blk_lt hVQ
    have hgk : Kept (fun k => v.ownBlock = some k) V w3 := (((Kept.refl (fun k => v.ownBlock = some k) V).drew).alloc _).grown hg (fun k e => .inl e)
    have ho3 : w3.heap[o]? = _ := (hgk.block o hol2 (fun e => (hw.vo o e).2 rfl)).trans ho
    have hq3 : w3.heap[w.heap.size]? = _ := (hgk.block _ hwz (fun e => by have := hlt _ (hw.vo _ e).1; omega)).trans hVQ
    obtain ⟨⟨x0, _⟩, x1⟩ := eight ho3
    have hk0 : Kept (fun k => k = o) w V := by
      have a1 : Kept (fun k => k = o) w ((w.setCell ⟨o, 1, none⟩ (.int .i64 ((b.last : Int) + 1))).alloc (.cells #[.int .i64 n1, .int .i64 f1, .int .i64 t1, .slice A d1.length cap, .bool s1] 38)) := (setO w o 1 _).alloc _
      have a2 := a1.size
      have a3 := hbe.size
      refine ⟨hk2.os.trans (hbe.os.trans a1.os), hk2.tape.trans (hbe.tape.trans a1.tape), hk2.output.trans (hbe.output.trans a1.output), by have := hk2.size; omega, fun k hk hx => (hk2.block k (by omega) (by omega)).trans ((hbe.block k (by omega)).trans (a1.block k hk hx))⟩
    have hsnoc : Own (w3.setCell ⟨o, 0, none⟩ (.slice (some ⟨g, 0, none⟩) (E.length + 1) cap2)) (fun k => S k ∨ w.heap.size ≤ k ∧ k < w3.heap.size) o (.slice (some ⟨g, 0, none⟩) (E.length + 1) cap2) (E ++ [e']) := by
      refine Own.snoc (N := w.heap.size) hw (hlt o hso) hlt (by omega) ?_ hgk (by rw [hcs]; exact ho2) ?_ (fun k h => .inl h) (fun k h1 h2 => .inr ⟨h1, h2⟩) _
      · rw [he']; exact row_base hVr (by omega)
      · rcases hat with h1 | h1
        · exact .inl h1.symm
        · refine .inr (fun k hk => ?_)
          simp [Value.ownBlock] at hk
          omega
    refine ⟨⟨x0, x1 0⟩, ?_, ?_, (fun k => S k ∨ w.heap.size ≤ k ∧ k < w3.heap.size), ⟨⟨_, _, ?_, ?_, hsnoc⟩, .inl hso, ?_⟩, fun k h => .inl h, fun k h => h.imp id (fun h => h.1)⟩
    · rw [World.cell?_of_block (a := ⟨w.heap.size, 0, none⟩) (Below.heap_setCell _ _ _ _ (by simp; omega)), blk_cell hq3]; rfl
    · refine (hk0.mono (Y := S) (fun k _ e => by rw [e]; exact hso)).trans ((hgk.mono (Y := S) (fun k _ e => (hw.vo k e).1)).trans ((setO w3 o 0 _).mono (Y := S) (fun k _ e => by rw [e]; exact hso)) (fun _ _ h => h)) (fun _ _ h => h)
    · rw [List.map_append, hE, he', ← HXX.out.1]; simp
    · rw [blk_set ho3, hb1]; rfl
    · rintro k (h | h)
      · have := hlt k h
        have := hgk.size
        simp; omega
      · simp; exact h.2
  have HO := Lib.hid hw.row
  have hvo := hw.vo
  have HVC : v.ownBlock ≠ some o := fun e => (hvo o e).2 rfl
  have HX : Hid (∀ u ∈ [Value.int .i64 ((b.last : Int) + 1), .int .i64 f1, .int .i64 t1, .slice A' d1.length cap', .bool s1], u.oneCell' = true) := by
    intro u hu
    simp at hu
    rcases hu with rfl | rfl | rfl | rfl | rfl <;> rfl
  obtain ⟨⟨y0, _⟩, y1⟩ := eight ho
  obtain ⟨⟨z0, z1, z2, z3, z4⟩, _⟩ := five hVQ
  have y2 := y1 0
  have y3 : ∀ x, (V.alloc x).cell? ⟨o, 0, none⟩ = some v := fun x => ((Kept.refl (fun _ => False) V).alloc x).cell y0 id
  obtain ⟨i0, hi, hz0, hz1, hz2⟩ := info_parts Try.infoFl
  clear hw ho hVQ hVr hcs he' hE hb1 hbe hr hk2 HB HQ HF HL HC HH HXX hlt hlt2 hvo y1 hso
  generalize E.length = N at *
  generalize csE E = xs at *
  go_region_law (refine step_append_lies _ rfl (.tmp 38) (.tmp 40) 25 rfl 0 38 i0 (.agg #[.int .i64 0, .int .i64 0, .int .i64 0, .slice none 0 0, .bool false]) 5 56 Try.underlying25 hi hz0 hz1 hz2 rfl (by decide) v N xs (by simp [Act.eval]) ((HO.out.drew).alloc _) ⟨V.heap.size, 0, none⟩ 1 1 [.int .i64 ((b.last : Int) + 1), .int .i64 f1, .int .i64 t1, .slice A' d1.length cap', .bool s1] (by simp [Act.eval]) rfl (new_cells5 _ _ _ _ _ _ (by simp)) HX.out (by decide) (by unfold maxLen; omega) (by omega) (by simp) (V.heap.size + 1) (by simp) ?_; intro g2 cap2 w2 ho2 hg2 hat2 _; obtain ⟨⟨hq1, hq2⟩, hq3, hq4⟩ := HS.out _ _ _ _ hg2 ho2 hat2)
  all_goals
    have HZ := Lib.hid hq4
    clear hq4 hg2 ho2 hat2
    go_wp2
    go_ret
    exact ⟨rfl, HZ.out⟩

/-- A packet comes into a bag. -/
theorem come_any {w : World} {S : Nat → Prop} {o k : Nat} {b : St} (h : BagAt 29 w S o b) (hb : Bd k b) (hk : k ≤ 1000000) (x : Fl) {A : Option Addr} {cap : Nat} (hA : BytesAt w A x.d) (hX : ∀ a, A = some a → 0 < x.d.length → a.block ≠ o) (hn : A = none → x.d = [] ∧ cap = 0) (hd : x.d.length ≤ 100000) :
    Calls Try.prog 43 #[.pointer (some ⟨o, 0, none⟩), flA x (.slice A x.d.length cap)] w fun e w' => e = .returned (.int .i64 (comeV b)) ∧ StepTo 29 w S o (comeS b x.f x.t x.d x.s) w' := by
  unfold comeV comeS
  split
  · exact come_full h hb hk (by assumption) x A _ cap
  · exact come_room h hb hk (by omega) x hA hX hn hd
end Go.Proofs.Ytinihggcibghaaa
