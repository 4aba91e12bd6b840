/-
  Take: its steps.
-/
import Derived.Test.YtfgajjfcjlejmaaDoorLkH
namespace Go.Proofs.YtfgajjfcjlejmaaDoor
set_option maxRecDepth 100000
set_option linter.unusedSimpArgs false
open Go Go.RowKit Wr
attribute [local go_sem] Oper.semAt_some

/-- The cells that are read on the way. -/
def TkC (w : World) (o bt : Nat) (p : Pkt) (A : Option Addr) (cap : Nat) (s : Lk.S) (uv bv : Value) (rn : Bool) (W : World) : Prop :=
    (W.cell? ⟨o, 0, none⟩ = some (.int .i64 s.self) ∧ W.cell? ⟨o, 1, none⟩ = some (.int .i64 s.peer) ∧ W.cell? ⟨o, 2, none⟩ = some (.int .u32 (s.ep : Nat)) ∧ W.cell? ⟨o, 3, none⟩ = some (.int .u32 (s.kn : Nat)) ∧ W.frozen? ⟨o, 3, none⟩ = false) ∧
    (W.cell? ⟨w.heap.size, 0, none⟩ = some (.int .i64 p.from_) ∧ W.cell? ⟨w.heap.size, 1, none⟩ = some (.int .i64 p.to_) ∧ W.cell? ⟨w.heap.size, 2, none⟩ = some (.int .u32 (p.fe : Nat)) ∧ W.cell? ⟨w.heap.size, 3, none⟩ = some (.int .u32 (p.te : Nat)) ∧ W.cell? ⟨w.heap.size, 4, none⟩ = some (.int .u32 (p.seq : Nat)) ∧ W.cell? ⟨w.heap.size, 5, none⟩ = some (.int .u32 (p.met : Nat)) ∧ W.cell? ⟨w.heap.size, 6, none⟩ = some (.int .i64 p.msg.kind) ∧ W.cell? ⟨w.heap.size, 7, none⟩ = some (.int .i64 p.msg.cell) ∧ W.cell? ⟨w.heap.size, 8, none⟩ = some (.int .u32 (p.msg.gen : Nat)) ∧ W.cell? ⟨w.heap.size, 9, none⟩ = some (.int .u64 (p.msg.stamp : Nat)) ∧ W.cell? ⟨w.heap.size, 10, none⟩ = some (.int .i64 p.msg.prio) ∧ W.cell? ⟨w.heap.size, 11, none⟩ = some (.int .i64 p.msg.hops) ∧ W.cell? ⟨w.heap.size, 12, none⟩ = some (.int .i64 p.msg.origin) ∧ W.cell? ⟨w.heap.size, 13, none⟩ = some (.int .i64 p.msg.other) ∧ W.cell? ⟨w.heap.size, 14, none⟩ = some (.slice A p.msg.claims.length cap)) ∧
    ((W.cell? ⟨w.heap.size + 1, 0, none⟩ = some nilS ∧ W.cell? ⟨w.heap.size + 1, 1, none⟩ = some nilS ∧ W.cell? ⟨w.heap.size + 1, 2, none⟩ = some (.bool false)) ∧ W.frozen? ⟨w.heap.size + 1, 0, none⟩ = false ∧ W.frozen? ⟨w.heap.size + 1, 1, none⟩ = false ∧ W.frozen? ⟨w.heap.size + 1, 2, none⟩ = false) ∧
    ((W.cell? ⟨bt, 0, none⟩ = some uv ∧ W.cell? ⟨bt, 1, none⟩ = some bv ∧ W.cell? ⟨bt, 2, none⟩ = some (.bool rn)) ∧ W.frozen? ⟨bt, 0, none⟩ = false ∧ W.frozen? ⟨bt, 1, none⟩ = false ∧ W.frozen? ⟨bt, 2, none⟩ = false)
theorem TkE.cells {w W : World} {vz : Nat} {T1 S : Nat → Prop} {o N bt : Nat} {p : Pkt} {A : Option Addr} {cap : Nat} {s : Lk.S} {uv bv : Value} {ups : List Msg} {bks : List Pkt} {rn : Bool} (h : TkE w vz T1 S o N bt p A cap s uv bv ups bks rn W) : TkC w o bt p A cap s uv bv rn W := by
  obtain ⟨S', h⟩ := h
  exact h.cells
theorem TkE.drew {w W : World} {vz : Nat} {T1 S : Nat → Prop} {o N bt : Nat} {p : Pkt} {A : Option Addr} {cap : Nat} {s : Lk.S} {uv bv : Value} {ups : List Msg} {bks : List Pkt} {rn : Bool} (h : TkE w vz T1 S o N bt p A cap s uv bv ups bks rn W) : TkE w vz T1 S o N bt p A cap s uv bv ups bks rn W.drew := h.drewN 1
/-- What Take needs. -/
structure TkA (w : World) (T S : Nat → Prop) (o N : Nat) (s : Lk.S) (n : Nat) (p : Pkt) (A : Option Addr) (cap : Nat) : Prop where
  lk : LnkAt w T S o N s
  ok : Lk.Ok s
  tab : Tab w
  tz : TabZ w
  gz : ¬ T 2
  hn : n ≤ topT
  hC : ClT w T A p.msg.claims cap
  hl : p.msg.claims.length ≤ 100000
  fe : p.fe ≤ 4294967295
  sq : p.seq ≤ 4294967295
  mt : p.met ≤ 4294967295
  gn : p.msg.gen < 4294967296
  hN : N < 1000000
/-- Nothing comes of it: it is refused. -/
theorem take_bad {w w1 W' : World} {T S : Nat → Prop} {o N : Nat} {s : Lk.S} {err : Int} (h : LnkAt w T S o N s) (hb : Below w.heap.size w w1) (hz : w.heap.size + 1 < w1.heap.size) (hk : Kept (fun k => k = w.heap.size + 1) w1 W') :
    TakeQ w T S o N ⟨s, [], [], false⟩ err (.returned (.tuple #[.agg #[nilS, nilS, .bool false], .int .i64 err])) W' := by
  have hSw : ∀ k, S k → k < w.heap.size := fun k hk => h.lt _ (h.st _ hk)
  have hL1 : LnkAt w1 (fun k => T k ∨ k = w.heap.size + 1) S o N s := h.grow hb (fun k hk h' => h'.elim id (fun e => by omega)) (fun k hk => .inl (h.st k hk)) (fun k hk => by
    rcases hk with hk | rfl
    · have := h.lt k hk; have := hb.size; omega
    · exact hz)
  have hL2 := hL1.kept hk (fun k e => .inr e) (fun k hk e => by have := hSw k hk; omega)
  refine ⟨nilS, nilS, rfl, (Kept.of_below (X := S) hb (Nat.le_refl _)).trans hk (fun i hi e => by omega), S, hL2.more (fun k _ h' => h'.elim .inl (fun h' => .inl (h.st k h'))) (fun _ h => .inr h) (fun k hk => hL2.lt k (hk.elim .inl (fun h' => .inl (h.st k h')))), fun _ h => h, fun _ h => .inl h, MsgsR.nil _ _ _, PktsR.nil _ _ _, fun g hg => (by cases hg), fun g hg => (by cases hg)⟩
/-- The way begins. -/
theorem take_start {w w1 : World} {T S : Nat → Prop} {o N : Nat} {s : Lk.S} {p : Pkt} {A : Option Addr} {cap : Nat} (h : LnkAt w T S o N s) (hC : ClT w T A p.msg.claims cap) (hb : Below w.heap.size w w1) (hp : w1.heap[w.heap.size]? = some (.cells (pktCl p A p.msg.claims.length cap) 39 (0, 0))) (hr : w1.heap[w.heap.size + 1]? = some (.cells #[nilS, nilS, .bool false] 52 (0, 0))) :
    ∃ T1 : Nat → Prop, TkH w (w1.heap.size + 1) T T1 S o w1.heap.size ∧ TkE w (w1.heap.size + 1) T1 S o N w1.heap.size p A cap s nilS nilS [] [] false (w1.alloc (.cells #[nilS, nilS, .bool false] 52)) := by
  have hz := blk_lt hr
  have hSw : ∀ k, S k → k < w.heap.size := fun k hk => h.lt _ (h.st _ hk)
  have hbw : Below w.heap.size w (w1.alloc (.cells #[nilS, nilS, .bool false] 52)) := hb.alloc hb.size _
  have hT : ∀ k, k < w.heap.size → ((T k ∨ k = w.heap.size + 1 ∨ k = w1.heap.size) ∨ S k) → T k := fun k hk h' => by
    rcases h' with (h' | h' | h') | h'
    · exact h'
    · omega
    · omega
    · exact h.st k h'
  refine ⟨fun k => T k ∨ k = w.heap.size + 1 ∨ k = w1.heap.size, ⟨rfl, hSw, h.lt, h.st, h.so, hz, by omega⟩, S, ⟨Kept.of_below hbw (Nat.le_refl _), by simp, h.grow hbw hT (fun k hk => .inr hk) (fun k hk => ?_), fun _ h => h, fun _ h => .inl h, (Below.heap_alloc _ _ _ (blk_lt hp)).trans hp, (Below.heap_alloc _ _ _ (blk_lt hr)).trans hr, World.alloc_heap_new w1 _, MsgsR.nil _ _ _, PktsR.nil _ _ _, (hC.more hT).below hbw, fun g hg => (by cases hg), fun g hg => (by cases hg)⟩⟩
  simp only [World.size_alloc]
  have := hb.size
  rcases hk with (h' | h' | h') | h'
  · have := h.lt k h'; omega
  · omega
  · omega
  · have := hSw k h'; omega

/-- Fourteen cells. -/
theorem LnkAt.all {w : World} {T S : Nat → Prop} {o N : Nat} {s : Lk.S} (h : LnkAt w T S o N s) : ∃ v mb, (w.cell? ⟨o, 6, none⟩ = some (.int .u32 (s.sent : Nat)) ∧ w.cell? ⟨o, 7, none⟩ = some v ∧ w.cell? ⟨o, 8, none⟩ = some (.int .u32 (s.l : Nat)) ∧ w.cell? ⟨o, 9, none⟩ = some (.int .u64 (s.e : Nat)) ∧ w.cell? ⟨o, 10, none⟩ = some (.map (some mb)) ∧ w.cell? ⟨o, 11, none⟩ = some (.bool s.on) ∧ w.cell? ⟨o, 12, none⟩ = some (.int .u64 (s.at_ : Nat)) ∧ w.cell? ⟨o, 13, none⟩ = some (.int .i64 s.tr)) ∧ w.frozen? ⟨o, 6, none⟩ = false ∧ w.frozen? ⟨o, 7, none⟩ = false ∧ w.frozen? ⟨o, 8, none⟩ = false ∧ w.frozen? ⟨o, 9, none⟩ = false ∧ w.frozen? ⟨o, 10, none⟩ = false ∧ w.frozen? ⟨o, 11, none⟩ = false ∧ w.frozen? ⟨o, 12, none⟩ = false ∧ w.frozen? ⟨o, 13, none⟩ = false := by
  obtain ⟨⟨v, E, mb, h1, h2, _⟩, _⟩ := id h
  refine ⟨v, mb, ⟨?_, ?_, ?_, ?_, ?_, ?_, ?_, ?_⟩, h.free 6, h.free 7, h.free 8, h.free 9, h.free 10, h.free 11, h.free 12, h.free 13⟩ <;> (rw [blk_cell h2]; rfl)
@[reducible] def sesW (w : World) (o m : Nat) : World := (((((((w.setCell ⟨o, 6, none⟩ (.int .u32 0)).setCell ⟨o, 7, none⟩ (.slice none 0 0)).setCell ⟨o, 8, none⟩ (.int .u32 0)).setCell ⟨o, 9, none⟩ (.int .u64 0)).setCell ⟨o, 10, none⟩ (.map (some m))).setCell ⟨o, 11, none⟩ (.bool false)).setCell ⟨o, 12, none⟩ (.int .u64 0)).setCell ⟨o, 13, none⟩ (.int .i64 0)
theorem ses_k (w2 : World) (o m : Nat) : Kept (fun k => k = o) w2 (sesW w2 o m) ∧ (sesW w2 o m).heap.size = w2.heap.size := by
  have k0 := Kept.refl (fun k => k = o) w2
  have k6 := k0.setCell (p := ⟨o, 6, none⟩) (.inl rfl) (.int .u32 0)
  have k7 := k6.setCell (p := ⟨o, 7, none⟩) (.inl rfl) (.slice none 0 0)
  have k8 := k7.setCell (p := ⟨o, 8, none⟩) (.inl rfl) (.int .u32 0)
  have k9 := k8.setCell (p := ⟨o, 9, none⟩) (.inl rfl) (.int .u64 0)
  have k10 := k9.setCell (p := ⟨o, 10, none⟩) (.inl rfl) (.map (some m))
  have k11 := k10.setCell (p := ⟨o, 11, none⟩) (.inl rfl) (.bool false)
  have k12 := k11.setCell (p := ⟨o, 12, none⟩) (.inl rfl) (.int .u64 0)
  exact ⟨k12.setCell (p := ⟨o, 13, none⟩) (.inl rfl) (.int .i64 0), by simp only [World.size_setCell]⟩
theorem ses_o {w2 : World} {o m mb : Nat} {s : Lk.S} {v : Value} (h : w2.heap[o]? = some (.cells (objL s v mb) 102 (0, 0))) : (sesW w2 o m).heap[o]? = some (.cells (objL (Lk.begun s) (.slice none 0 0) m) 102 (0, 0)) := by
  have h6 := blk_set h 6 (.int .u32 0)
  have h7 := blk_set h6 7 (.slice none 0 0)
  have h8 := blk_set h7 8 (.int .u32 0)
  have h9 := blk_set h8 9 (.int .u64 0)
  have h10 := blk_set h9 10 (.map (some m))
  have h11 := blk_set h10 11 (.bool false)
  have h12 := blk_set h11 12 (.int .u64 0)
  have h13 := blk_set h12 13 (.int .i64 0)
  simpa [objL, Lk.begun] using h13
/-- The session begins anew. -/
theorem begun_fin {W w2 : World} {T S : Nat → Prop} {o N m : Nat} {s : Lk.S} (h : LnkAt W T S o N s) (hb : Below W.heap.size W w2) (hm : W.heap.size ≤ m) (hmm : w2.heap[m]? = some (.map #[] 0)) : StepL W T S o N (Lk.begun s) (sesW w2 o m) := by
  obtain ⟨⟨v, E, mb, h1, h2, h3, h4, h5, h6, h7⟩, hso, hst, hlt⟩ := h
  have hol := hlt _ (hst _ hso)
  have h02 : w2.heap[o]? = _ := (hb.block _ hol).trans h2
  obtain ⟨hk, hsz⟩ := ses_k w2 o m
  have ho := ses_o (m := m) h02
  generalize sesW w2 o m = W3 at *
  have hml := blk_lt hmm
  refine ⟨(Kept.of_below (X := S) hb (Nat.le_refl _)).trans (hk.mono (Y := S) (fun k _ e => by rw [e]; exact hso)) (fun _ _ h => h), fun k => S k ∨ k = m, ⟨⟨.slice none 0 0, [], m, rfl, ho, OpnAt.empty _ _, ?_, .inr rfl, by omega, fun g hg => (by cases hg)⟩, .inl hso, fun _ h => .inr h, fun k hk' => ?_⟩, fun _ h => .inl h, fun k hk' => hk'.imp id (fun e => by omega)⟩
  · have he : ErlAt W3 (fun k => T k ∨ S k ∨ k = m) m 0 (fun _ => none) := ErlAt.empty ((hk.block _ hml (by omega)).trans hmm)
    obtain ⟨g, g1, g2, g3⟩ := he
    exact ⟨g, g1, g2.mono (Nat.zero_le _), g3⟩
  · rw [hsz]
    rcases hk' with h' | h' | h'
    · have := hlt k h'; have := hb.size; omega
    · have := hlt k (hst k h'); have := hb.size; omega
    · omega

section
variable {w W W' : World} {vz : Nat} {T T1 S S' : Nat → Prop} {o N bt : Nat} {p : Pkt} {A : Option Addr} {cap : Nat} {s s' : Lk.S} {uv bv : Value} {ups : List Msg} {bks : List Pkt} {rn : Bool}
/-- The peer's epoch is another one. -/
theorem TkE.known (hH : TkH w vz T T1 S o bt) (h : TkE w vz T1 S o N bt p A cap s nilS nilS [] [] rn W) (fe : Nat) : TkE w vz T1 S o N bt p A cap { s with kn := fe } nilS nilS [] [] rn (W.setCell ⟨o, 3, none⟩ (.int .u32 (fe : Nat))) :=
  h.step hH (fun _ hL => StepL.setO hL (kO W o 3 _) rfl rfl (fun _ _ hv => blk_set hv 3 _))
theorem TkE.begun (hH : TkH w vz T T1 S o bt) (h : TkE w vz T1 S o N bt p A cap s nilS nilS [] [] rn W) {m : Nat} (hb : Below W.heap.size W W') (hm : W.heap.size ≤ m) (hmm : W'.heap[m]? = some (.map #[] 0)) : TkE w vz T1 S o N bt p A cap (Lk.begun s) nilS nilS [] [] rn (sesW W' o m) :=
  h.step hH (fun _ hL => begun_fin hL hb hm hmm)
theorem kB (w : World) (o j : Nat) (u : Value) : Kept (fun k => k = o) w (w.setCell ⟨o, j, none⟩ u) := kO w o j u
theorem TkE.renewed (hH : TkH w vz T T1 S o bt) (h : TkE w vz T1 S o N bt p A cap s nilS nilS [] [] rn W) : TkE w vz T1 S o N bt p A cap s nilS nilS [] [] true (W.setCell ⟨bt, 2, none⟩ (.bool true)) := by
  obtain ⟨S', h⟩ := h
  exact ⟨S', h.box hH (kO W bt 2 _) (blk_set h.tb 2 _) h.um h.bm h.ud h.bd⟩
/-- A packet goes back. -/
theorem TkE.bare (hH : TkH w vz T T1 S o bt) (h : TkE w vz T1 S o N bt p A cap s uv bv ups bks rn W) (k : Int) :
    Calls Tryd.prog 37 #[.pointer (some ⟨o, 0, none⟩), .int .i64 k] W fun e W' => ∃ v, e = .returned v ∧ TkC w o bt p A cap s uv bv rn W' ∧ TkE w vz T1 S o N bt p A cap s uv v ups [Lk.mk s 0 (Lk.bareM k)] rn (W'.setCell ⟨bt, 1, none⟩ v) := by
  obtain ⟨S', h⟩ := h
  refine (bare_any h.lk k).mono ?_
  rintro e W' ⟨v, rfl, hb, hp⟩
  have h2 := h.below hb
  have hw := h.kp.size
  exact ⟨v, rfl, h2.cells, S', h2.box hH (kO W' bt 1 _) (blk_set h2.tb 1 _) h2.um ((hp _ h.lk.lt).base hw) h2.ud (fun g hg hS => by have h9 := ((hp _ h.lk.lt).blk hg).1; have := h.lk.lt g (.inr hS); omega)⟩
theorem TkE.ack (hH : TkH w vz T T1 S o bt) (h : TkE w vz T1 S o N bt p A cap s nilS nilS [] [] rn W) (hO : Lk.Ok s) {n : Nat} (hn : n ≤ topT) {met : Nat} (hm : met ≤ 4294967295) :
    Calls Tryd.prog 47 #[.pointer (some ⟨o, 0, none⟩), .int .u64 (n : Nat), .int .u32 (met : Nat)] W fun e W' => (∃ v, e = .returned v) ∧ TkE w vz T1 S o N bt p A cap (Lk.ackS s n met) nilS nilS [] [] rn W' := by
  obtain ⟨S', h⟩ := h
  refine (ack_any h.lk hO hn hm).mono ?_
  rintro e W' ⟨hv, hs⟩
  exact ⟨hv, h.step hH hs⟩
theorem TkI.takes (h : TkI w vz T1 S o N bt p A cap s S' uv bv ups bks rn W) (hl : s.l ≤ 4294967295) (hq : p.seq ≤ 4294967295) :
    Calls Tryd.prog 48 #[.pointer (some ⟨o, 6, none⟩), pktA p A p.msg.claims.length cap] W fun e W' => e = .returned (.bool (Lk.takes s p.seq p.msg.kind)) ∧ TkI w vz T1 S o N bt p A cap s S' uv bv ups bks rn W' := by
  refine (takes_any h.lk hl p hq).mono ?_
  rintro e W' ⟨rfl, hb⟩
  exact ⟨rfl, h.below hb⟩
theorem TkE.meet (hH : TkH w vz T T1 S o bt) (h : TkE w vz T1 S o N bt p A cap s nilS nilS [] [] rn W) (hO : Lk.Ok s) (hZ : TabZ w) (hgz : ¬ T 2) (hq : p.seq ≤ 4294967295) (hl : p.msg.claims.length ≤ 100000) (hN : N < 10000000) :
    Calls Tryd.prog 49 #[.pointer (some ⟨o, 6, none⟩), .int .u32 (p.seq : Nat), msgA p.msg A p.msg.claims.length cap] W fun e W' => ∃ v, e = .returned v ∧ (W'.heap[w.heap.size]? = some (.cells (pktCl p A p.msg.claims.length cap) 39 (0, 0)) ∧ (W'.setCell ⟨bt, 0, none⟩ v).heap[w.heap.size]? = some (.cells (pktCl p A p.msg.claims.length cap) 39 (0, 0))) ∧ (W'.cell? ⟨bt, 0, none⟩ = some nilS ∧ W'.frozen? ⟨bt, 0, none⟩ = false) ∧ TkE w vz T1 S o (N + 1) bt p A cap (Lk.meetS s p.seq p.msg) v nilS (Lk.meetU s p.seq p.msg) [] rn (W'.setCell ⟨bt, 0, none⟩ v) := by
  obtain ⟨S', h⟩ := h
  have hgl := hZ.lt
  have hb1 := hH.b1
  have hb2 := hH.b2
  have hgS : ¬ S 2 := fun e => hgz (hH.st _ e)
  have hg' : ¬ (T1 2 ∨ S' 2) := by
    rintro (e | e)
    · rw [hH.t1] at e
      rcases e with e | e | e
      · exact hgz e
      · omega
      · omega
    · rcases h.sf _ e with e | e
      · exact hgS e
      · omega
  refine (lmeet_any h.lk hO (hZ.kept h.kp hgS) hg' hq p.msg h.cl hl hN).mono ?_
  rintro e W' ⟨v, rfl, k1, k2, k3⟩
  have hz := h.zv
  have hw := h.kp.size
  have hn : ∀ k, k < vz → w.heap.size ≤ k → ¬ S' k := fun k h1 h2 h3 => by
    rcases h.sf k h3 with h4 | h4
    · have := hH.sl k h4; omega
    · omega
  have ht : W'.heap[bt]? = _ := (k1.block _ (blk_lt h.tb) (hn _ (by omega) (by omega))).trans h.tb
  have hp : W'.heap[w.heap.size]? = _ := (k1.block _ (blk_lt h.pb) (hn _ (by omega) (by omega))).trans h.pb
  have h2 : TkI w vz T1 S o (N + 1) bt p A cap (Lk.meetS s p.seq p.msg) S' nilS nilS [] [] rn W' :=
    ⟨h.kp.trans k1 (fun i hi hs => (h.sf i hs).elim id (fun h => by omega)), Nat.le_trans hz k1.size, k2, h.ss, h.sf, hp, (k1.block _ (blk_lt h.rb) (hn _ (by omega) (by omega))).trans h.rb, ht, MsgsR.nil _ _ _, PktsR.nil _ _ _, h.cl.kept k1 (fun k hk => .inr hk), fun g hg => (by cases hg), fun g hg => (by cases hg)⟩
  have hud : ∀ g, v.ownBlock = some g → ¬ S' g := fun g hg hS => by have h9 := (k3.blk hg).1; have := h.lk.lt g (.inr hS); omega
  obtain ⟨E, m1, m2, m3⟩ := k3
  exact ⟨v, rfl, ⟨hp, ((kO W' bt 0 v).block _ (blk_lt hp) (by omega)).trans hp⟩, ⟨by rw [blk_cell ht]; rfl, blk_free ht 0⟩, S', h2.box hH (kO W' bt 0 v) (blk_set ht 0 _) ⟨E, m1, rowB m2 hw, m3⟩ h2.bm hud h2.bd⟩
theorem TkE.formB (h : TkE w vz T1 S o N bt p A cap s uv bv ups bks rn W) : ∃ A n cap, bv = .slice A n cap := by
  obtain ⟨S', h⟩ := h
  obtain ⟨E, _, h2, _⟩ := h.bm
  rcases h2.2 with ⟨e, _⟩ | ⟨g, c, cur, e, _⟩
  · exact ⟨_, _, _, e⟩
  · exact ⟨_, _, _, e⟩
theorem TkE.formU (h : TkE w vz T1 S o N bt p A cap s uv bv ups bks rn W) : ∃ A n cap, uv = .slice A n cap := by
  obtain ⟨S', h⟩ := h
  obtain ⟨E, _, h2, _⟩ := h.um
  rcases h2.2 with ⟨e, _⟩ | ⟨g, c, cur, e, _⟩
  · exact ⟨_, _, _, e⟩
  · exact ⟨_, _, _, e⟩
end
end Go.Proofs.YtfgajjfcjlejmaaDoor
