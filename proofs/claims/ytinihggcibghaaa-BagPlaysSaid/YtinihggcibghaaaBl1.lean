/-
  The document's bag: put.
-/
import Derived.Test.YtinihggcibghaaaBl0
import Derived.Deep.RegionLaw
import Derived.OwnWalk
namespace Go.Proofs.Ytinihggcibghaaa
set_option maxRecDepth 100000
set_option linter.unusedSimpArgs false
open Go Go.RowKit Bg
attribute [local go_sem] Oper.semAt_some

set_option maxHeartbeats 1000000 in
theorem rput_full {w : World} {S : Nat → Prop} {o k : Nat} {b : St} (h : BagAt 32 w S o b) (hb : Bd k b) (hk : k ≤ 1000000) (hf : 256 ≤ b.l.length) (x : Fl) (A : Option Addr) (n cap : Nat) :
    Calls Try.prog 46 #[.pointer (some ⟨o, 0, none⟩), flA x (.slice A n cap)] w fun e w' => e = .returned (.int .i64 0) ∧ StepTo 32 w S o { b with c := { b.c with lost := b.c.lost + 1 } } w' := by
  have hlost := hb.lost
  have HF : Hid (∀ x : Obj, StepTo 32 w S o { b with c := { b.c with lost := b.c.lost + 1 } } ((w.alloc x).setCell ⟨o, 7, none⟩ (.int .i64 ((b.c.lost : Int) + 1)))) := fun x =>
    StepTo.pre ((Below.refl _ w).alloc (Nat.le_refl _) x) ((h.alloc x).step 7 _ rfl (fun v => by simp))
  have HC : Hid (∀ x : Obj, ∃ A cap, ((w.alloc x).cell? ⟨o, 0, none⟩ = some (.slice A b.l.length cap) ∧ (w.alloc x).cell? ⟨o, 7, none⟩ = some (.int .i64 (b.c.lost : Nat))) ∧ ∀ j, (w.alloc x).frozen? ⟨o, j, none⟩ = false) := fun x => by
    obtain ⟨A, cap, _, h1, h2⟩ := (h.alloc x).cells
    exact ⟨A, cap, ⟨h1.1, h1.2.2.2.2.2.2.2⟩, h2⟩
  clear h hb
  generalize b.c.lost = L at *
  generalize b.l.length = N at *
  obtain ⟨n1, f1, t1, d1, s1⟩ := x
  show Calls _ _ #[_, .agg #[.int .i64 n1, .int .i64 f1, .int .i64 t1, .slice A n cap, .bool s1]] _ _
  obtain ⟨A2, cap2, ⟨c1, c2⟩, c3⟩ := HC.out (.cells #[.int .i64 n1, .int .i64 f1, .int .i64 t1, .slice A n cap, .bool s1] 38)
  have c4 := c3 7
  clear c3
  go_enter Try.func46, Try.ntmps46
  go_wp2
  go_ret
  exact ⟨rfl, HF.out _⟩

set_option maxHeartbeats 1000000 in
theorem rput_room {w : World} {S : Nat → Prop} {o k : Nat} {b : St} (h : BagAt 32 w S o b) (hb : Bd k b) (hk : k ≤ 1000000) (hf : b.l.length < 256) (x : Fl) {A : Option Addr} {cap : Nat} (hA : BytesAt w A x.d) (hX : ∀ a, A = some a → 0 < x.d.length → a.block ≠ o) (hn : A = none → x.d = [] ∧ cap = 0) (hd : x.d.length ≤ 100000) :
    Calls Try.prog 46 #[.pointer (some ⟨o, 0, none⟩), flA x (.slice A x.d.length cap)] w fun e w' => e = .returned (.int .i64 ((b.last + 1 : Nat) : Int)) ∧ StepTo 32 w S o { b with l := b.l ++ [⟨((b.last + 1 : Nat) : Int), x.f, x.t, x.d, x.s⟩], last := b.last + 1 } w' := by
  have hlast := hb.last
  have hol := h.lt o h.so
  obtain ⟨b1, hb1⟩ : ∃ b1 : St, b1 = { b with last := b.last + 1 } := ⟨_, rfl⟩
  have HF : Hid (∀ (x : Obj) (u : Int), u = (b.last : Int) + 1 → BagAt 32 ((w.setCell ⟨o, 1, none⟩ (.int .i64 u)).alloc x) S o b1) := fun x u hu => by
    rw [hb1]; exact (BagAt.set (b' := { b with last := b.last + 1 }) h 1 (.int .i64 u) rfl (fun v => by rw [hu]; simp)).alloc x
  have HL : Hid (∀ (y : Obj) (u : Value), BytesAt ((w.setCell ⟨o, 1, none⟩ u).alloc y) A x.d) := fun y u =>
    hA.kept2 (((setO w o 1 u).alloc y : Kept (fun k => k = o) w _)) hX
  have HNN := Lib.hid hn
  have HC : Hid (∀ x : Obj, ∃ A cap, ((w.alloc x).cell? ⟨o, 0, none⟩ = some (.slice A b.l.length cap) ∧ (w.alloc x).cell? ⟨o, 1, none⟩ = some (.int .i64 (b.last : Nat))) ∧ ∀ j, (w.alloc x).frozen? ⟨o, j, none⟩ = false) := fun x => by
    obtain ⟨A, cap, _, h1, h2⟩ := (h.alloc x).cells
    exact ⟨A, cap, ⟨h1.1, h1.2.1⟩, h2⟩
  have HH := Lib.hid h
  have HXX : Hid (b.l = b1.l ∧ b.last + 1 = b1.last) := by rw [hb1]; exact ⟨rfl, rfl⟩
  clear h hb hA hX hn
  obtain ⟨n1, f1, t1, d1, s1⟩ := x
  show Calls _ _ #[_, .agg #[.int .i64 n1, .int .i64 f1, .int .i64 t1, .slice A d1.length cap, .bool s1]] _ _
  obtain ⟨A2, cap2, ⟨c1, c2⟩, c3⟩ := HC.out (.cells #[.int .i64 n1, .int .i64 f1, .int .i64 t1, .slice A d1.length cap, .bool s1] 38)
  have c4 := c3 1
  clear c3
  go_enter Try.func46, Try.ntmps46
  have c5 : (w.setCell ⟨o, 1, none⟩ (.int .i64 ((b.last : Int) + 1))).cell? ⟨o, 1, none⟩ = some (.int .i64 ((b.last : Int) + 1)) := by
    obtain ⟨A9, cap9, _, h9, _⟩ := (BagAt.set (b' := { b with last := b.last + 1 }) HH.out 1 (.int .i64 ((b.last : Int) + 1)) rfl (fun v => by simp)).cells
    exact h9.2.1
  have hd' : d1.length ≤ 100000 := hd
  have hw1 : ((w.setCell ⟨o, 1, none⟩ (.int .i64 ((b.last : Int) + 1))).alloc (.cells #[.int .i64 ((b.last : Int) + 1), .int .i64 f1, .int .i64 t1, .slice A d1.length cap, .bool s1] 38)).heap[w.heap.size]? = some (.cells #[.int .i64 ((b.last : Int) + 1), .int .i64 f1, .int .i64 t1, .slice A d1.length cap, .bool s1] 38 (0, 0)) := by
    have := World.alloc_heap_new (w.setCell ⟨o, 1, none⟩ (.int .i64 ((b.last : Int) + 1))) (.cells #[.int .i64 ((b.last : Int) + 1), .int .i64 f1, .int .i64 t1, .slice A d1.length cap, .bool s1] 38); rwa [World.size_setCell] at this
  have HW1 := Lib.hid hw1
  clear hw1
  go_wp2_with (at_builtin; go_loud (refine wpList_append_bytes rfl (.tmp 33) (.tmp 35) rfl (w.heap.size + 1) (n := 0) (L := []) rfl (World.ownsRow_nil _ _ _ _) (m := d1.length) (news := d1) rfl (HL.out _ _) rfl HNN.out (by omega) (by simp) ?_))
  intro v2 w2 hr hg
  have hbe : Below (w.heap.size + 1) ((w.setCell ⟨o, 1, none⟩ (.int .i64 ((b.last : Int) + 1))).alloc (.cells #[.int .i64 ((b.last : Int) + 1), .int .i64 f1, .int .i64 t1, .slice A d1.length cap, .bool s1] 38)) w2 :=
    (Below.refl _ _).grown hg (by simp) (fun k e => by cases e)
  obtain ⟨A', cap', rfl, _⟩ := row_bytes (row_base hr (Nat.zero_le _))
  have hq : w2.heap[w.heap.size]? = some (.cells #[.int .i64 ((b.last : Int) + 1), .int .i64 f1, .int .i64 t1, .slice A d1.length cap, .bool s1] 38 (0, 0)) := by
    rw [hbe.block _ (by omega)]; exact HW1.out
  have HB := Lib.hid ((HF.out _ _ rfl).below (hbe.mono (by simp)))
  obtain ⟨A3, cap3, _, ⟨k0, k1, _⟩, k3⟩ := HB.out.cells
  obtain ⟨⟨q0, q1, q2, q3, q4⟩, g0, g1, g2, g3, g4⟩ := five hq
  have HQ := Lib.hid hq
  clear hq k3 HW1 hg
  go_wp2
  obtain ⟨V, hV⟩ : ∃ V, V = w2.setCell ⟨w.heap.size, 3, none⟩ (.slice A' d1.length cap') := ⟨_, rfl⟩
  rw [← hV]
  have hk2 : Kept (fun k => k = w.heap.size) w2 V := by
    rw [hV]
    exact (Kept.refl (fun k => k = w.heap.size) w2).setCell (p := ⟨w.heap.size, 3, none⟩) (.inl rfl) _
  have hVQ : V.heap[w.heap.size]? = some (.cells #[.int .i64 ((b.last : Int) + 1), .int .i64 f1, .int .i64 t1, .slice A' d1.length cap', .bool s1] 38 (0, 0)) := by
    rw [hV, blk_set HQ.out 3 _]
    rfl
  have hlt := HH.out.lt
  have hVB := HB.out.kept hk2 (fun k hk e => by have := hlt k hk; omega)
  have hVr := hk2.row hr (fun g hg => by have := (hr.lt g hg).1; omega)
  clear hV k0 k1 q0 q1 q2 q3 q4 g0 g1 g2 g3 g4 c1 c2 c4 c5
  obtain ⟨⟨v, E, hE, ho, hw⟩, hso, hlt2⟩ := hVB
  have hE' : E.length < 256 := by have h1 := congrArg List.length hE; rw [← HXX.out.1] at h1; simp at h1; omega
  obtain ⟨e', he'⟩ : ∃ e' : Ent, e' = (⟨(b.last : Int) + 1, f1, t1, d1, s1⟩, A', cap') := ⟨_, rfl⟩
  have hcs : csE (E ++ [e']) = csE E ++ [.int .i64 ((b.last : Int) + 1), .int .i64 f1, .int .i64 t1, .slice A' d1.length cap', .bool s1] := by
    rw [csE_append, he']; simp [csE, Fl.cs, Ent.v]
  have HS : Hid (∀ t' w3 g cap2, ((V.drew).alloc (.cells #[.int .i64 ((b.last : Int) + 1), .int .i64 f1, .int .i64 t1, .slice A' d1.length cap', .bool s1] t')).grownBy w3 v.ownBlock →
      w3.ownsRow 0 38 5 (.slice (some ⟨g, 0, none⟩) (E.length + 1) cap2) (E.length + 1) (csE E ++ [.int .i64 ((b.last : Int) + 1), .int .i64 f1, .int .i64 t1, .slice A' d1.length cap', .bool s1]) → (v.ownBlock = some g ∨ g = V.heap.size + 1) →
      (w3.cell? ⟨o, 0, none⟩ = some v ∧ w3.frozen? ⟨o, 0, none⟩ = false) ∧ (w3.setCell ⟨o, 0, none⟩ (.slice (some ⟨g, 0, none⟩) (E.length + 1) cap2)).cell? ⟨o, 1, none⟩ = some (.int .i64 ((b.last : Int) + 1)) ∧
      StepTo 32 w S o { b with l := b.l ++ [⟨((b.last + 1 : Nat) : Int), f1, t1, d1, s1⟩], last := b.last + 1 } (w3.setCell ⟨o, 0, none⟩ (.slice (some ⟨g, 0, none⟩) (E.length + 1) cap2))) := by
    intro t' w3 g cap2 hg ho2 hat
    have hol2 := blk_lt ho
    have hwz : w.heap.size < V.heap.size := blk_lt hVQ
    have hgk : Kept (fun k => v.ownBlock = some k) V w3 := (((Kept.refl (fun k => v.ownBlock = some k) V).drew).alloc _).grown hg (fun k e => .inl e)
    have ho3 : w3.heap[o]? = _ := (hgk.block o hol2 (fun e => (hw.vo o e).2 rfl)).trans ho
    have hq3 : w3.heap[w.heap.size]? = _ := (hgk.block _ hwz (fun e => by have := hlt _ (hw.vo _ e).1; omega)).trans hVQ
    obtain ⟨⟨x0, _⟩, x1⟩ := eight ho3
    have hk0 : Kept (fun k => k = o) w V := by
      have a1 : Kept (fun k => k = o) w ((w.setCell ⟨o, 1, none⟩ (.int .i64 ((b.last : Int) + 1))).alloc (.cells #[.int .i64 ((b.last : Int) + 1), .int .i64 f1, .int .i64 t1, .slice A d1.length cap, .bool s1] 38)) := (setO w o 1 _).alloc _
      have a2 := a1.size
      have a3 := hbe.size
      refine ⟨hk2.os.trans (hbe.os.trans a1.os), hk2.tape.trans (hbe.tape.trans a1.tape), hk2.output.trans (hbe.output.trans a1.output), by have := hk2.size; omega, fun k hk hx => (hk2.block k (by omega) (by omega)).trans ((hbe.block k (by omega)).trans (a1.block k hk hx))⟩
    have hsnoc : Own (w3.setCell ⟨o, 0, none⟩ (.slice (some ⟨g, 0, none⟩) (E.length + 1) cap2)) (fun k => S k ∨ w.heap.size ≤ k ∧ k < w3.heap.size) o (.slice (some ⟨g, 0, none⟩) (E.length + 1) cap2) (E ++ [e']) := by
      refine Own.snoc (N := w.heap.size) hw (hlt o hso) hlt (by omega) ?_ hgk (by rw [hcs]; exact ho2) ?_ (fun k h => .inl h) (fun k h1 h2 => .inr ⟨h1, h2⟩) _
      · rw [he']; exact row_base hVr (by omega)
      · rcases hat with h1 | h1
        · exact .inl h1.symm
        · refine .inr (fun k hk => ?_)
          simp [Value.ownBlock] at hk
          omega
    refine ⟨⟨x0, x1 0⟩, ?_, ?_, (fun k => S k ∨ w.heap.size ≤ k ∧ k < w3.heap.size), ⟨⟨_, _, ?_, ?_, hsnoc⟩, .inl hso, ?_⟩, fun k h => .inl h, fun k h => h.imp id (fun h => h.1)⟩
    · rw [blk_cell (blk_set ho3 0 _), hb1]; rfl
    · refine (hk0.mono (Y := S) (fun k _ e => by rw [e]; exact hso)).trans ((hgk.mono (Y := S) (fun k _ e => (hw.vo k e).1)).trans ((setO w3 o 0 _).mono (Y := S) (fun k _ e => by rw [e]; exact hso)) (fun _ _ h => h)) (fun _ _ h => h)
    · rw [List.map_append, hE, he', ← HXX.out.1]; simp
    · rw [blk_set ho3, hb1]; rfl
    · rintro k (h | h)
      · have := hlt k h
        have := hgk.size
        simp; omega
      · simp; exact h.2
  have HO := Lib.hid hw.row
  have hvo := hw.vo
  have HVC : v.ownBlock ≠ some o := fun e => (hvo o e).2 rfl
  have HX : Hid (∀ u ∈ [Value.int .i64 ((b.last : Int) + 1), .int .i64 f1, .int .i64 t1, .slice A' d1.length cap', .bool s1], u.oneCell' = true) := by
    intro u hu
    simp at hu
    rcases hu with rfl | rfl | rfl | rfl | rfl <;> rfl
  obtain ⟨⟨y0, _⟩, y1⟩ := eight ho
  obtain ⟨⟨z0, z1, z2, z3, z4⟩, _⟩ := five hVQ
  have y2 := y1 0
  have y3 : ∀ x, (V.alloc x).cell? ⟨o, 0, none⟩ = some v := fun x => ((Kept.refl (fun _ => False) V).alloc x).cell y0 id
  obtain ⟨i0, hi, hz0, hz1, hz2⟩ := info_parts Try.infoFl
  clear hw ho hVQ hVr hcs he' hE hb1 hbe hr hk2 HB HQ HF HL HC HH HXX hlt hlt2 hvo y1 hso HNN
  generalize E.length = N at *
  generalize csE E = xs at *
  go_region_law (refine step_append_lies _ rfl (.tmp 42) (.tmp 44) 25 rfl 0 38 i0 (.agg #[.int .i64 0, .int .i64 0, .int .i64 0, .slice none 0 0, .bool false]) 5 56 Try.underlying25 hi hz0 hz1 hz2 rfl (by decide) v N xs (by simp [Act.eval]) ((HO.out.drew).alloc _) ⟨V.heap.size, 0, none⟩ 1 1 [.int .i64 ((b.last : Int) + 1), .int .i64 f1, .int .i64 t1, .slice A' d1.length cap', .bool s1] (by simp [Act.eval]) rfl (new_cells5 _ _ _ _ _ _ (by simp)) HX.out (by decide) (by unfold maxLen; omega) (by omega) (by simp) (V.heap.size + 1) (by simp) ?_; intro g2 cap2 w2 ho2 hg2 hat2 _; obtain ⟨⟨hq1, hq2⟩, hq3, hq4⟩ := HS.out _ _ _ _ hg2 ho2 hat2)
  all_goals
    have HZ := Lib.hid hq4
    clear hq4 hg2 ho2 hat2
    go_wp2
    go_ret
    exact ⟨rfl, HZ.out⟩

/-- A packet comes into a bag. -/
theorem rput_any {w : World} {S : Nat → Prop} {o k : Nat} {b : St} (h : BagAt 32 w S o b) (hb : Bd k b) (hk : k ≤ 1000000) (x : Fl) {A : Option Addr} {cap : Nat} (hA : BytesAt w A x.d) (hX : ∀ a, A = some a → 0 < x.d.length → a.block ≠ o) (hn : A = none → x.d = [] ∧ cap = 0) (hd : x.d.length ≤ 100000) :
    Calls Try.prog 46 #[.pointer (some ⟨o, 0, none⟩), flA x (.slice A x.d.length cap)] w fun e w' => e = .returned (.int .i64 (comeV b)) ∧ StepTo 32 w S o (comeS b x.f x.t x.d x.s) w' := by
  unfold comeV comeS
  split
  · exact rput_full h hb hk (by assumption) x A _ cap
  · exact rput_room h hb hk (by omega) x hA hX hn hd
end Go.Proofs.Ytinihggcibghaaa
