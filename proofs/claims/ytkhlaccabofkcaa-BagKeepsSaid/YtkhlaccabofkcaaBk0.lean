/-
  BagKeeps: one call of each kind.
-/
import Derived.Test.YtkhlaccabofkcaaBj
import Derived.Test.YtkhlaccabofkcaaBh
import Derived.Deep.DeepCutAuto
import Derived.Deep.CutBlock
import Derived.Deep.RegionHeld3
import Derived.Carry
namespace Go.Proofs.Ytkhlaccabofkcaa
set_option maxRecDepth 100000
set_option linter.unusedSimpArgs false
open Go Go.RowKit Bg
attribute [local go_sem] Oper.semAt_some

theorem key_wf {n : Int} (h1 : -1000000 ≤ n) (h2 : n ≤ 1000000) : (Lit.int .i64 n).wf = true := WalkArith.wf_i64 ⟨by omega, by omega⟩
/-- Between two rounds. -/
def KpI (w : World) (o m j : Nat) (W : World) (b : St) : Prop := ∃ (g : Int → List Nat) (x : Obj), OneF w o b [(m, x)] W ∧ Sen W m j g ∧ Bd (2 * j) b ∧ Kps b g
theorem KpI.new {w w1 : World} (hb : Below w.heap.size w w1) : KpI w w1.heap.size (w1.heap.size + 1) 0 ((w1.alloc (.cells #[.slice none 0 0, .int .i64 0, .int .i64 0, .int .i64 0, .int .i64 0, .int .i64 0, .int .i64 0, .int .i64 0] 29)).alloc (.map #[] 0)) Bg.zero := by
  obtain ⟨h1, S, h2, h3⟩ := One.new w w1 hb 29
  have h4 := (OneF.add (K := []) ⟨h1, S, h2, h3, by simp⟩ (.map #[] 0))
  have h5 := Sen.made (w1.alloc (.cells #[.slice none 0 0, .int .i64 0, .int .i64 0, .int .i64 0, .int .i64 0, .int .i64 0, .int .i64 0, .int .i64 0] 29))
  rw [World.size_alloc] at h4 h5
  exact ⟨_, _, h4, h5, Bd.zero _, Kps.zero⟩
/-- A map is stored into beside a bag. -/
theorem OneF.turn {w0 W W' : World} {o m : Nat} {b : St} {x : Obj} (h : OneF w0 o b [(m, x)] W) (hm : w0.heap.size ≤ m) (hk : Kept (fun i => i = m) W W') : ∃ x', OneF w0 o b [(m, x')] W' := by
  obtain ⟨h1, S, h2, h3, h4⟩ := h
  obtain ⟨q1, q2⟩ := h4 (m, x) (by simp)
  have hlt : m < W'.heap.size := Nat.lt_of_lt_of_le (blk_lt q1) hk.size
  refine ⟨W'.heap[m]'hlt, h1.trans (hk.below (fun k e => by omega) h1.size), S, h2.kept hk (fun k hk e => q2 (e ▸ hk)), h3, fun p hp => ?_⟩
  rw [List.mem_singleton] at hp
  subst hp
  exact ⟨Array.getElem?_eq_getElem hlt, q2⟩
theorem Sen.obj {w w' : World} {m N : Nat} {g : Int → List Nat} {x : Obj} (h : Sen w m N g) (h1 : w.heap[m]? = some x) (h2 : w'.heap[m]? = some x) : Sen w' m N g := h.kept (h2.trans h1.symm)
/-- What was sent is written down. -/
theorem KpI.put {w W : World} {o m j : Nat} {b : St} {g : Int → List Nat} {x : Obj} (h : OneF w o b [(m, x)] W) (hm : w.heap.size ≤ m) (hs : Sen W m j g) (hj : j < 1000) (hb : Bd (2 * (j + 1)) b) {k : Int} (hk1 : -1000000 ≤ k) (hk2 : k ≤ 1000000) {d : List Nat} (hd : d.length ≤ 60) (hp : Kps b (upd g k d)) :
    ∃ W', (Instr.mapUpdate 57 (.map (some m)) (.int .i64 k) (.string (strN d))).run Try.prog W = .ok () W' ∧ KpI w o m (j + 1) W' b := by
  obtain ⟨W', h1, h2, h3⟩ := hs.put (by omega) (key_wf hk1 hk2) hd
  obtain ⟨x', h4⟩ := h.turn hm h3
  exact ⟨W', h1, _, x', h4, h2, hb, hp⟩

theorem KpI.later {w W W' : World} {o m j : Nat} {b : St} (h : KpI w o m j W b) (hb : Below W.heap.size W W') : KpI w o m j W' b := by
  obtain ⟨g, x, h1, h2, h3, h4⟩ := h
  exact ⟨g, x, h1.later hb, h2.kept (hb.block m h2.lt), h3, h4⟩
theorem KpI.of {w W W' : World} {o m j : Nat} {b b' : St} {g : Int → List Nat} {x X : Obj} {k : Nat} (h : OneF w o b [(m, x)] W) (hs : Sen W m j g) (h' : OneF w o b' [(k, X), (m, x)] W') (hb : Bd (2 * (j + 1)) b') (hp : Kps b' g) : KpI w o m (j + 1) W' b' :=
  ⟨g, x, h'.less (by simp), (hs.obj (h.obj (m, x) (by simp)) (h'.obj (m, x) (by simp))).mono (by omega), hb, hp⟩
theorem comeV_le {k : Nat} {b : St} (h : Bd k b) : 0 ≤ comeV b ∧ comeV b ≤ (k : Int) + 1 := by
  have := h.last
  unfold comeV; split <;> omega
theorem comeV_new (b : St) : comeV b = 0 ∨ (b.last : Int) < comeV b := by
  unfold comeV; split <;> omega

section
variable {w wr : World} {o m j : Nat} {b : St} {g : Int → List Nat} {xm : Obj} {x : Cl}
@[reducible] def opX (x : Cl) : Obj := .cells #[.int .i64 x.kind, .int .i64 x.n, .int .i64 x.at_, .slice x.A x.d.length x.cap, .int .u8 (x.v : Nat), .int .i64 x.many] 36
theorem opX_cell {W : World} {q : Nat} (h : W.heap[q]? = some (opX x)) : W.cell? ⟨q, 1, none⟩ = some (.int .i64 x.n) ∧ W.cell? ⟨q, 3, none⟩ = some (.slice x.A x.d.length x.cap) := ⟨by rw [blk_cell h]; rfl, by rw [blk_cell h]; rfl⟩
/-- What is known when a call begins. -/
structure Beg (w wr : World) (o m j : Nat) (b : St) (g : Int → List Nat) (xm : Obj) (x : Cl) : Prop where
  one : OneF w o b [(m, xm)] wr
  sen : Sen wr m j g
  bd : Bd (2 * j) b
  kps : Kps b g
  ok : OpOk wr x
  few : x.d.length ≤ 60
  lt : ∀ a, x.A = some a → 0 < x.d.length → a.block < w.heap.size
  j1 : j < 200
  m0 : w.heap.size ≤ m
  o0 : w.heap.size ≤ o
theorem Beg.send (h : Beg w wr o m j b g xm x) : Calls Try.prog 17 #[.pointer (some ⟨o, 0, none⟩), .int .i64 x.n, .int .i64 x.at_, .slice x.A x.d.length x.cap] (wr.alloc (opX x)) fun e w' => e = .returned (.int .i64 (comeV b)) ∧
    w'.cell? ⟨wr.heap.size, 3, none⟩ = some (.slice x.A x.d.length x.cap) ∧ (convert 34 9 (.slice x.A x.d.length x.cap)).run Try.prog w' = .ok (.string (strN x.d)) w' ∧
    ∃ W4 b2, (Instr.mapUpdate 57 (.map (some m)) (.int .i64 (comeV b)) (.string (strN x.d))).run Try.prog w' = .ok () W4 ∧ (b2.last : Int) = max (b.last : Int) (comeV b) ∧ KpI w o m (j + 1) W4 b2 := by
  have hX := h.one.add (opX x)
  have hw0 : Below wr.heap.size wr (wr.alloc (opX x)) := (Below.refl _ wr).alloc (Nat.le_refl _) _
  have hj := h.j1
  have hd := h.few
  refine (onf_send hX h.bd (by omega) x.n x.at_ (h.ok.dat.below hw0) (fun a ha h0 => by have := h.lt a ha h0; have := h.o0; omega) h.ok.nil (by omega)).mono ?_
  rintro e w' ⟨rfl, h2⟩
  have h3 := h2.obj (wr.heap.size, opX x) (by simp)
  have hb' : BytesAt w' x.A x.d := by
    refine h.ok.dat.kept2 (X := fun k => w.heap.size ≤ k) ⟨h2.1.os.trans h.one.1.os.symm, h2.1.tape.trans h.one.1.tape.symm, h2.1.output.trans h.one.1.output.symm, ?_, fun k hk hn => ?_⟩ (fun a ha h0 => by have := h.lt a ha h0; omega)
    · have := blk_lt h3; omega
    · exact (h2.1.block k (by omega)).trans (h.one.1.block k (by omega)).symm
  refine ⟨rfl, (opX_cell h3).2, conv_bytes x.cap hb' h.ok.lt, ?_⟩
  obtain ⟨v1, v2⟩ := comeV_le h.bd
  obtain ⟨W4, q1, q2⟩ := KpI.put (h2.less (K' := [(m, xm)]) (by simp)) h.m0 (h.sen.obj (h.one.obj (m, xm) (by simp)) (h2.obj (m, xm) (by simp))) (by omega) ((h.bd.send x.n x.at_ hd h.ok.lt).mono (by omega)) (k := comeV b) (by omega) (by omega) hd (h.kps.send x.n x.at_ ⟨hd, h.ok.lt⟩)
  exact ⟨W4, _, q1, last_send _ _ _ _, q2⟩
theorem Beg.delN (h : Beg w wr o m j b g xm x) (hi : idx b.l x.n = none) : Calls Try.prog 20 #[.pointer (some ⟨o, 0, none⟩), .int .i64 x.n] (wr.alloc (opX x)) fun e w' => ∃ A cap, e = .returned (.tuple #[.agg #[.int .i64 0, .int .i64 0, .int .i64 0, .slice A 0 cap, .bool false], .int .i64 80]) ∧ ∃ b2, b2.last = b.last ∧ ∀ Y, KpI w o m (j + 1) (w'.alloc Y) b2 := by
  have hX := h.one.add (opX x)
  have hj := h.j1
  refine (onf_del hX h.bd (by omega) x.n).mono ?_
  rintro e w' ⟨A, c, h1, _, h2, _⟩
  have e1 : delX b x.n = (noFl, 80) := by rw [delX, hi]
  have e2 : Bg.delS b x.n = b := by rw [Bg.delS, hi]
  rw [e1] at h1
  rw [e2] at h2
  exact ⟨A, c, h1, b, rfl, fun Y => (KpI.of h.one h.sen h2 (h.bd.mono (by omega)) h.kps).later ((Below.refl _ w').alloc (Nat.le_refl _) Y)⟩
theorem Beg.delS (h : Beg w wr o m j b g xm x) {i : Nat} (hi : idx b.l x.n = some i) : Calls Try.prog 20 #[.pointer (some ⟨o, 0, none⟩), .int .i64 x.n] (wr.alloc (opX x)) fun e w' => ∃ (y : Fl) (A : Option Addr) (cap : Nat) (sv : ByteArray) (b2 : St), e = .returned (.tuple #[flA y (.slice A y.d.length cap), .int .i64 0]) ∧ b2.last = b.last ∧
    ∀ Y, (Instr.lookup 57 (.map (some m)) (.int .i64 y.n) false).run Try.prog (w'.alloc Y) = .ok (.string sv) (w'.alloc Y) ∧ Calls Try.prog 23 #[flA y (.slice A y.d.length cap), .string sv] (w'.alloc Y) fun e W2 => e = .returned (.bool true) ∧ KpI w o m (j + 1) W2 b2 := by
  have hX := h.one.add (opX x)
  have hj := h.j1
  refine (onf_del hX h.bd (by omega) x.n).mono ?_
  rintro e w' ⟨A, c, h1, hA, h2, _⟩
  have e1 : delX b x.n = (b.l.getD i noFl, 0) := by rw [delX, hi]
  rw [e1] at h1 hA
  obtain ⟨hi1, hi2⟩ := idx_some hi
  have hk := h.kps.get hi1
  have hat := h.bd.at_ hi1
  have hle := h.kps.srt.le _ (by rw [List.getD_eq_getElem?_getD, List.getElem?_eq_getElem hi1]; exact List.getElem_mem hi1 : b.l.getD i noFl ∈ b.l)
  have hlb := h.bd.last
  refine ⟨b.l.getD i noFl, A, c, strN (g (b.l.getD i noFl).n), Bg.delS b x.n, h1, last_del _ _, fun Y => ⟨?_, ?_⟩⟩
  · refine Sen.look ((h.sen.obj (h.one.obj (m, xm) (by simp)) (h2.obj (m, xm) (by simp))).kept ?_) (key_wf (by omega) (by omega))
    exact Below.heap_alloc _ _ _ (blk_lt (h2.obj (m, xm) (by simp)))
  · have hb : Below w'.heap.size w' (w'.alloc Y) := (Below.refl _ w').alloc (Nat.le_refl _) Y
    refine (kept_any c (hA.below hb) hat.2 (h.kps.few _).2 hat.1 hk).mono ?_
    rintro e W2 ⟨rfl, hb2⟩
    exact ⟨rfl, (KpI.of h.one h.sen h2 ((h.bd.del1 x.n).mono (by omega)) (h.kps.del x.n)).later (hb.trans (hb2.mono hb.size))⟩
theorem Beg.drop (h : Beg w wr o m j b g xm x) : Calls Try.prog 22 #[.pointer (some ⟨o, 0, none⟩), .int .i64 x.n] (wr.alloc (opX x)) fun e w' => (∃ v, e = .returned v) ∧ ∃ b2, b2.last = b.last ∧ KpI w o m (j + 1) w' b2 := by
  have hX := h.one.add (opX x)
  have hj := h.j1
  obtain ⟨h1, S, h2, h3, h4⟩ := hX
  refine (drop_any h2 h.bd (by omega) x.n).mono ?_
  rintro e w' ⟨rfl, q2⟩
  exact ⟨⟨_, rfl⟩, dropS b x.n, last_drop _ _, KpI.of h.one h.sen (OneF.of h1 h3 h4 q2) ((h.bd.drop1 x.n).mono (by omega)) (h.kps.drop x.n)⟩
theorem Beg.spoil (h : Beg w wr o m j b g xm x) : Calls Try.prog 19 #[.pointer (some ⟨o, 0, none⟩), .int .i64 x.n, .int .i64 x.at_, .int .u8 (x.v : Nat)] (wr.alloc (opX x)) fun e w' => (∃ v, e = .returned v) ∧ ∃ b2, b2.last = b.last ∧ KpI w o m (j + 1) w' b2 := by
  have hX := h.one.add (opX x)
  have hj := h.j1
  refine (onf_spoil hX h.bd (by omega) x.n x.at_ h.ok.v).mono ?_
  rintro e w' ⟨rfl, q2⟩
  exact ⟨⟨_, rfl⟩, spoilS b x.n x.at_ x.v, last_spoil _ _ _ _, KpI.of h.one h.sen q2 ((h.bd.spoil1 x.n x.at_ h.ok.v).mono (by omega)) (h.kps.spoil x.n x.at_ x.v)⟩
theorem Beg.dblN (h : Beg w wr o m j b g xm x) (hi : idx b.l x.n = none) : Calls Try.prog 18 #[.pointer (some ⟨o, 0, none⟩), .int .i64 x.n] (wr.alloc (opX x)) fun e w' => e = .returned (.tuple #[.int .i64 0, .int .i64 80]) ∧ ∃ b2, b2.last = b.last ∧ KpI w o m (j + 1) w' b2 := by
  have hX := h.one.add (opX x)
  have hj := h.j1
  refine (onf_dbl hX h.bd (by omega) x.n).mono ?_
  rintro e w' ⟨rfl, h2⟩
  have e1 : dblX b x.n = (0, 80) := by rw [dblX, hi]
  have e2 : Bg.dblS b x.n = b := by rw [Bg.dblS, hi]
  rw [e2] at h2
  exact ⟨by rw [e1], b, rfl, KpI.of h.one h.sen h2 (h.bd.mono (by omega)) h.kps⟩
theorem Beg.dblF (h : Beg w wr o m j b g xm x) {i : Nat} (hi : idx b.l x.n = some i) (hc : comeV b = 0) : Calls Try.prog 18 #[.pointer (some ⟨o, 0, none⟩), .int .i64 x.n] (wr.alloc (opX x)) fun e w' => e = .returned (.tuple #[.int .i64 0, .int .i64 0]) ∧ ∃ b2, b2.last = b.last ∧ KpI w o m (j + 1) w' b2 := by
  have hX := h.one.add (opX x)
  have hj := h.j1
  refine (onf_dbl hX h.bd (by omega) x.n).mono ?_
  rintro e w' ⟨rfl, h2⟩
  have e1 : dblX b x.n = (comeV b, 0) := by rw [dblX, hi]
  have e2 := last_dbl hi
  rw [if_pos hc] at e2
  exact ⟨by rw [e1, hc], Bg.dblS b x.n, by omega, KpI.of h.one h.sen h2 ((h.bd.dbl2 x.n).mono (by omega)) (h.kps.dblF hc)⟩
theorem Beg.dblS (h : Beg w wr o m j b g xm x) {i : Nat} (hi : idx b.l x.n = some i) (hc : comeV b ≠ 0) : Calls Try.prog 18 #[.pointer (some ⟨o, 0, none⟩), .int .i64 x.n] (wr.alloc (opX x)) fun e w' => e = .returned (.tuple #[.int .i64 (comeV b), .int .i64 0]) ∧
    w'.cell? ⟨wr.heap.size, 1, none⟩ = some (.int .i64 x.n) ∧ ∃ sv, (Instr.lookup 57 (.map (some m)) (.int .i64 x.n) false).run Try.prog w' = .ok (.string sv) w' ∧
    ∃ W4 b2, (Instr.mapUpdate 57 (.map (some m)) (.int .i64 (comeV b)) (.string sv)).run Try.prog w' = .ok () W4 ∧ (b2.last : Int) = comeV b ∧ KpI w o m (j + 1) W4 b2 := by
  have hX := h.one.add (opX x)
  have hj := h.j1
  refine (onf_dbl hX h.bd (by omega) x.n).mono ?_
  rintro e w' ⟨rfl, h2⟩
  have e1 : dblX b x.n = (comeV b, 0) := by rw [dblX, hi]
  have e2 := last_dbl hi
  rw [if_neg hc] at e2
  obtain ⟨hi1, hi2⟩ := idx_some hi
  have hle := h.kps.srt.le _ (by rw [List.getD_eq_getElem?_getD, List.getElem?_eq_getElem hi1]; exact List.getElem_mem hi1 : b.l.getD i noFl ∈ b.l)
  rw [hi2] at hle
  have hlb := h.bd.last
  have h3 := h2.obj (wr.heap.size, opX x) (by simp)
  have hs := h.sen.obj (h.one.obj (m, xm) (by simp)) (h2.obj (m, xm) (by simp))
  obtain ⟨v1, v2⟩ := comeV_le h.bd
  refine ⟨by rw [e1], (opX_cell h3).1, strN (g x.n), hs.look (key_wf (by omega) (by omega)), ?_⟩
  obtain ⟨W4, q1, q2⟩ := KpI.put (h2.less (K' := [(m, xm)]) (by simp)) h.m0 hs (by omega) ((h.bd.dbl2 x.n).mono (by omega)) (k := comeV b) (by omega) (by omega) (h.kps.few x.n).1 (h.kps.dblS hi)
  exact ⟨W4, _, q1, e2, q2⟩
theorem Beg.other (h : Beg w wr o m j b g xm x) : ∃ b2, b2.last = b.last ∧ KpI w o m (j + 1) (wr.alloc (opX x)) b2 :=
  ⟨b, rfl, KpI.of h.one h.sen (h.one.add (opX x)) (h.bd.mono (by omega)) h.kps⟩
end

end Go.Proofs.Ytkhlaccabofkcaa
