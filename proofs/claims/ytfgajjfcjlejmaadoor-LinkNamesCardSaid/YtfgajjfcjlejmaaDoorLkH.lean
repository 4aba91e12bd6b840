/-
  Take: what holds on its way.
-/
import Derived.Test.YtfgajjfcjlejmaaDoorLkG
import Derived.Test.YtfgajjfcjlejmaaDoorLk9
namespace Go.Proofs.YtfgajjfcjlejmaaDoor
set_option maxRecDepth 100000
set_option linter.unusedSimpArgs false
open Go Go.RowKit Wr
attribute [local go_sem] Oper.semAt_some

@[reducible] def pktCl (p : Pkt) (A : Option Addr) (n cap : Nat) : Array Value := #[.int .i64 p.from_, .int .i64 p.to_, .int .u32 (p.fe : Nat), .int .u32 (p.te : Nat), .int .u32 (p.seq : Nat), .int .u32 (p.met : Nat), .int .i64 p.msg.kind, .int .i64 p.msg.cell, .int .u32 (p.msg.gen : Nat), .int .u64 (p.msg.stamp : Nat), .int .i64 p.msg.prio, .int .i64 p.msg.hops, .int .i64 p.msg.origin, .int .i64 p.msg.other, .slice A n cap]
@[reducible] def nilS : Value := .slice none 0 0
/-- What Take leaves. -/
def TakeQ (w : World) (T S : Nat → Prop) (o N : Nat) (r : Lk.R) (err : Int) (e : Ending) (w' : World) : Prop :=
  ∃ uv bv, e = .returned (.tuple #[.agg #[uv, bv, .bool r.ren], .int .i64 err]) ∧ Kept S w w' ∧ ∃ S', LnkAt w' (fun k => T k ∨ S' k) S' o N r.s ∧ (∀ k, S k → S' k) ∧ (∀ k, S' k → S k ∨ w.heap.size ≤ k) ∧ MsgsR w' (fun k => T k ∨ S' k) w.heap.size uv r.up ∧ PktsR w' (fun k => T k ∨ S' k) w.heap.size bv r.back ∧ (∀ g, uv.ownBlock = some g → ¬ S' g) ∧ ∀ g, bv.ownBlock = some g → ¬ S' g
/-- The sets of blocks on the way. -/
structure TkH (w : World) (vz : Nat) (T T1 S : Nat → Prop) (o bt : Nat) : Prop where
  t1 : T1 = fun k => T k ∨ k = w.heap.size + 1 ∨ k = bt
  sl : ∀ k, S k → k < w.heap.size
  tl : ∀ k, T k → k < w.heap.size
  st : ∀ k, S k → T k
  so : S o
  b1 : w.heap.size + 1 < bt
  b2 : bt < vz
structure TkI (w : World) (vz : Nat) (T1 S : Nat → Prop) (o N bt : Nat) (p : Pkt) (A : Option Addr) (cap : Nat) (s : Lk.S) (S' : Nat → Prop) (uv bv : Value) (ups : List Msg) (bks : List Pkt) (rn : Bool) (W : World) : Prop where
  kp : Kept S w W
  zv : vz ≤ W.heap.size
  lk : LnkAt W (fun k => T1 k ∨ S' k) S' o N s
  ss : ∀ k, S k → S' k
  sf : ∀ k, S' k → S k ∨ vz ≤ k
  pb : W.heap[w.heap.size]? = some (.cells (pktCl p A p.msg.claims.length cap) 39 (0, 0))
  rb : W.heap[w.heap.size + 1]? = some (.cells #[nilS, nilS, .bool false] 52 (0, 0))
  tb : W.heap[bt]? = some (.cells #[uv, bv, .bool rn] 52 (0, 0))
  um : MsgsR W (fun k => T1 k ∨ S' k) w.heap.size uv ups
  bm : PktsR W (fun k => T1 k ∨ S' k) w.heap.size bv bks
  cl : ClT W (fun k => T1 k ∨ S' k) A p.msg.claims cap
  ud : ∀ g, uv.ownBlock = some g → ¬ S' g
  bd : ∀ g, bv.ownBlock = some g → ¬ S' g
/-- .. with some set of the link's own blocks. -/
def TkE (w : World) (vz : Nat) (T1 S : Nat → Prop) (o N bt : Nat) (p : Pkt) (A : Option Addr) (cap : Nat) (s : Lk.S) (uv bv : Value) (ups : List Msg) (bks : List Pkt) (rn : Bool) (W : World) : Prop := ∃ S', TkI w vz T1 S o N bt p A cap s S' uv bv ups bks rn W

theorem MsgsR.keptX {w w' : World} {T X : Nat → Prop} {B : Nat} {v : Value} {L : List Msg} (h : MsgsR w T B v L) (hk : Kept X w w') (hX : ∀ k, X k → T k) (hv : ∀ g, v.ownBlock = some g → ¬ X g) : MsgsR w' T B v L := by
  obtain ⟨E, h1, h2, h3⟩ := h
  exact ⟨E, h1, hk.row h2 hv, fun e he => (h3 e he).kept hk hX⟩
theorem PktsR.keptX {w w' : World} {T X : Nat → Prop} {B : Nat} {v : Value} {L : List Pkt} (h : PktsR w T B v L) (hk : Kept X w w') (hX : ∀ k, X k → T k) (hv : ∀ g, v.ownBlock = some g → ¬ X g) : PktsR w' T B v L := by
  obtain ⟨E, h1, h2, h3⟩ := h
  exact ⟨E, h1, hk.row h2 hv, fun e he => (h3 e he).kept hk hX⟩
theorem MsgsR.more {w : World} {T T' : Nat → Prop} {B : Nat} {v : Value} {L : List Msg} (h : MsgsR w T B v L) (hT : ∀ k, k < w.heap.size → T' k → T k) : MsgsR w T' B v L := by
  obtain ⟨E, h1, h2, h3⟩ := h
  exact ⟨E, h1, h2, fun e he => (h3 e he).more hT⟩
theorem PktsR.more {w : World} {T T' : Nat → Prop} {B : Nat} {v : Value} {L : List Pkt} (h : PktsR w T B v L) (hT : ∀ k, k < w.heap.size → T' k → T k) : PktsR w T' B v L := by
  obtain ⟨E, h1, h2, h3⟩ := h
  exact ⟨E, h1, h2, fun e he => (h3 e he).more hT⟩
theorem MsgsR.blk {w : World} {T : Nat → Prop} {B : Nat} {v : Value} {L : List Msg} (h : MsgsR w T B v L) {g : Nat} (hg : v.ownBlock = some g) : B ≤ g ∧ ∃ cur, w.heap[g]? = some (.cells cur 37 (0, 0)) := by
  obtain ⟨E, _, h2, _⟩ := h
  rcases h2.2 with ⟨e, _⟩ | ⟨g', cap, cur, e, hb, hh, _⟩
  · rw [e] at hg; cases hg
  · rw [e] at hg
    simp [Value.ownBlock] at hg
    subst hg
    exact ⟨hb, cur, hh⟩
theorem PktsR.blk {w : World} {T : Nat → Prop} {B : Nat} {v : Value} {L : List Pkt} (h : PktsR w T B v L) {g : Nat} (hg : v.ownBlock = some g) : B ≤ g ∧ ∃ cur, w.heap[g]? = some (.cells cur 39 (0, 0)) := by
  obtain ⟨E, _, h2, _⟩ := h
  rcases h2.2 with ⟨e, _⟩ | ⟨g', cap, cur, e, hb, hh, _⟩
  · rw [e] at hg; cases hg
  · rw [e] at hg
    simp [Value.ownBlock] at hg
    subst hg
    exact ⟨hb, cur, hh⟩

section
variable {w W W' : World} {vz : Nat} {T T1 S S' : Nat → Prop} {o N bt : Nat} {p : Pkt} {A : Option Addr} {cap : Nat} {s s' : Lk.S} {uv bv : Value} {ups : List Msg} {bks : List Pkt} {rn : Bool}
theorem TkI.below (h : TkI w vz T1 S o N bt p A cap s S' uv bv ups bks rn W) (hb : Below W.heap.size W W') : TkI w vz T1 S o N bt p A cap s S' uv bv ups bks rn W' := by
  have hk : Kept (fun _ => False) W W' := Kept.of_below hb (Nat.le_refl _)
  exact ⟨h.kp.trans hk (fun _ _ h => h.elim), Nat.le_trans h.zv hb.size, h.lk.below hb, h.ss, h.sf, (hb.block _ (blk_lt h.pb)).trans h.pb, (hb.block _ (blk_lt h.rb)).trans h.rb, (hb.block _ (blk_lt h.tb)).trans h.tb, h.um.keptX hk (fun _ h => h.elim) (fun _ _ => id), h.bm.keptX hk (fun _ h => h.elim) (fun _ _ => id), h.cl.below hb, h.ud, h.bd⟩
theorem TkE.below (h : TkE w vz T1 S o N bt p A cap s uv bv ups bks rn W) (hb : Below W.heap.size W W') : TkE w vz T1 S o N bt p A cap s uv bv ups bks rn W' := by
  obtain ⟨S', h⟩ := h
  exact ⟨S', h.below hb⟩
theorem TkE.drewN (h : TkE w vz T1 S o N bt p A cap s uv bv ups bks rn W) (k : Nat) : TkE w vz T1 S o N bt p A cap s uv bv ups bks rn (W.drewN k) := h.below ⟨rfl, rfl, rfl, Nat.le_refl _, fun _ _ => rfl⟩
/-- A step of the link itself, while nothing is told. -/
theorem TkI.step {M : Nat} (hH : TkH w vz T T1 S o bt) (h : TkI w vz T1 S o N bt p A cap s S' nilS nilS [] [] rn W) (hs : StepL W (fun k => T1 k ∨ S' k) S' o M s' W') : TkE w vz T1 S o M bt p A cap s' nilS nilS [] [] rn W' := by
  obtain ⟨k1, S2, k2, k3, k4⟩ := hs
  have hz := h.zv
  have hw := h.kp.size
  have hb2 := hH.b2
  have hb1 := hH.b1
  have hn : ∀ k, k < vz → w.heap.size ≤ k → ¬ S' k := fun k h1 h2 h3 => by
    rcases h.sf k h3 with h4 | h4
    · have := hH.sl k h4; omega
    · omega
  refine ⟨S2, h.kp.trans k1 (fun i hi hs => (h.sf i hs).elim id (fun h => by omega)), Nat.le_trans hz k1.size, k2.more (fun k _ hk => hk.elim (fun h => .inl (.inl h)) .inr) (fun k hk => .inr hk) (fun k hk => k2.lt k (hk.elim (fun h => .inl (.inl h)) .inr)), fun k hk => k3 k (h.ss k hk), fun k hk => ?_, (k1.block _ (blk_lt h.pb) (hn _ (by omega) (by omega))).trans h.pb, (k1.block _ (blk_lt h.rb) (hn _ (by omega) (by omega))).trans h.rb, (k1.block _ (blk_lt h.tb) (hn _ (by omega) (by omega))).trans h.tb, MsgsR.nil _ _ _, PktsR.nil _ _ _, ?_, fun g hg => (by cases hg), fun g hg => (by cases hg)⟩
  · rcases k4 k hk with h1 | h1
    · exact h.sf k h1
    · exact .inr (Nat.le_trans hz h1)
  · exact (h.cl.beside k1 (fun k hk => .inr hk) k4).more (fun k _ hk => hk.elim (fun h => .inl (.inl h)) .inr)
theorem TkE.step {M : Nat} (hH : TkH w vz T T1 S o bt) (h : TkE w vz T1 S o N bt p A cap s nilS nilS [] [] rn W) (hs : ∀ S', LnkAt W (fun k => T1 k ∨ S' k) S' o N s → StepL W (fun k => T1 k ∨ S' k) S' o M s' W') : TkE w vz T1 S o M bt p A cap s' nilS nilS [] [] rn W' := by
  obtain ⟨S', h⟩ := h
  exact h.step hH (hs S' h.lk)
/-- The box of what is answered turns. -/
theorem TkI.box (hH : TkH w vz T T1 S o bt) (h : TkI w vz T1 S o N bt p A cap s S' uv bv ups bks rn W) (hk : Kept (fun k => k = bt) W W') {uv' bv' : Value} {ups' : List Msg} {bks' : List Pkt} {rn' : Bool} (hb : W'.heap[bt]? = some (.cells #[uv', bv', .bool rn'] 52 (0, 0)))
    (hu : MsgsR W (fun k => T1 k ∨ S' k) w.heap.size uv' ups') (hv : PktsR W (fun k => T1 k ∨ S' k) w.heap.size bv' bks') (hud : ∀ g, uv'.ownBlock = some g → ¬ S' g) (hbd : ∀ g, bv'.ownBlock = some g → ¬ S' g) : TkI w vz T1 S o N bt p A cap s S' uv' bv' ups' bks' rn' W' := by
  have hz := h.zv
  have hw := h.kp.size
  have hb2 := hH.b2
  have hb1 := hH.b1
  have hT : ∀ k, k = bt → (T1 k ∨ S' k) := fun k e => by rw [e, hH.t1]; exact .inl (.inr (.inr rfl))
  have hn : ¬ S' bt := fun h3 => by
    rcases h.sf _ h3 with h4 | h4
    · have := hH.sl _ h4; omega
    · omega
  refine ⟨h.kp.trans hk (fun i hi e => by omega), Nat.le_trans hz hk.size, h.lk.kept hk hT (fun k hk e => hn (by rw [← e]; exact hk)), h.ss, h.sf, (hk.block _ (blk_lt h.pb) (by omega)).trans h.pb, (hk.block _ (blk_lt h.rb) (by omega)).trans h.rb, hb, hu.keptX hk hT (fun g hg e => ?_), hv.keptX hk hT (fun g hg e => ?_), h.cl.kept hk hT, hud, hbd⟩
  · obtain ⟨_, cur, hc⟩ := hu.blk hg
    rw [e, h.tb] at hc
    simp at hc
  · obtain ⟨_, cur, hc⟩ := hv.blk hg
    rw [e, h.tb] at hc
    simp at hc
/-- What is answered is laid into the result's box. -/
theorem TkI.done {r : Lk.R} {err : Int} (hH : TkH w vz T T1 S o bt) (h : TkI w vz T1 S o N bt p A cap r.s S' uv bv r.up r.back r.ren W) (hk : Kept (fun k => k = w.heap.size + 1) W W') : TakeQ w T S o N r err (.returned (.tuple #[.agg #[uv, bv, .bool r.ren], .int .i64 err])) W' := by
  have hz := h.zv
  have hb2 := hH.b2
  have hb1 := hH.b1
  have hT : ∀ k, k = w.heap.size + 1 → (T1 k ∨ S' k) := fun k e => by rw [e, hH.t1]; exact .inl (.inr (.inl rfl))
  have hn : ¬ S' (w.heap.size + 1) := fun h3 => by
    rcases h.sf _ h3 with h4 | h4
    · have := hH.sl _ h4; omega
    · omega
  have hTT : ∀ k, k < W'.heap.size → (T k ∨ S' k) → (T1 k ∨ S' k) := fun k _ h => h.imp (fun h => by rw [hH.t1]; exact .inl h) id
  have hlk := h.lk.kept hk hT (fun k hk e => hn (by rw [← e]; exact hk))
  refine ⟨uv, bv, rfl, h.kp.trans hk (fun i hi e => by omega), S', hlk.more hTT (fun _ h => .inr h) (fun k hk => hlk.lt k (hk.imp (fun h => by rw [hH.t1]; exact .inl h) id)), h.ss, fun k hk => (h.sf k hk).imp id (fun h => by omega), (h.um.keptX hk hT (fun g hg e => ?_)).more hTT, (h.bm.keptX hk hT (fun g hg e => ?_)).more hTT, h.ud, h.bd⟩
  · obtain ⟨_, cur, hc⟩ := h.um.blk hg
    rw [e, h.rb] at hc
    simp at hc
  · obtain ⟨_, cur, hc⟩ := h.bm.blk hg
    rw [e, h.rb] at hc
    simp at hc
/-- The cells that are read on the way. -/
theorem TkI.cells (h : TkI w vz T1 S o N bt p A cap s S' uv bv ups bks rn W) :
    (W.cell? ⟨o, 0, none⟩ = some (.int .i64 s.self) ∧ W.cell? ⟨o, 1, none⟩ = some (.int .i64 s.peer) ∧ W.cell? ⟨o, 2, none⟩ = some (.int .u32 (s.ep : Nat)) ∧ W.cell? ⟨o, 3, none⟩ = some (.int .u32 (s.kn : Nat)) ∧ W.frozen? ⟨o, 3, none⟩ = false) ∧
    (W.cell? ⟨w.heap.size, 0, none⟩ = some (.int .i64 p.from_) ∧ W.cell? ⟨w.heap.size, 1, none⟩ = some (.int .i64 p.to_) ∧ W.cell? ⟨w.heap.size, 2, none⟩ = some (.int .u32 (p.fe : Nat)) ∧ W.cell? ⟨w.heap.size, 3, none⟩ = some (.int .u32 (p.te : Nat)) ∧ W.cell? ⟨w.heap.size, 4, none⟩ = some (.int .u32 (p.seq : Nat)) ∧ W.cell? ⟨w.heap.size, 5, none⟩ = some (.int .u32 (p.met : Nat)) ∧ W.cell? ⟨w.heap.size, 6, none⟩ = some (.int .i64 p.msg.kind) ∧ W.cell? ⟨w.heap.size, 7, none⟩ = some (.int .i64 p.msg.cell) ∧ W.cell? ⟨w.heap.size, 8, none⟩ = some (.int .u32 (p.msg.gen : Nat)) ∧ W.cell? ⟨w.heap.size, 9, none⟩ = some (.int .u64 (p.msg.stamp : Nat)) ∧ W.cell? ⟨w.heap.size, 10, none⟩ = some (.int .i64 p.msg.prio) ∧ W.cell? ⟨w.heap.size, 11, none⟩ = some (.int .i64 p.msg.hops) ∧ W.cell? ⟨w.heap.size, 12, none⟩ = some (.int .i64 p.msg.origin) ∧ W.cell? ⟨w.heap.size, 13, none⟩ = some (.int .i64 p.msg.other) ∧ W.cell? ⟨w.heap.size, 14, none⟩ = some (.slice A p.msg.claims.length cap)) ∧
    ((W.cell? ⟨w.heap.size + 1, 0, none⟩ = some nilS ∧ W.cell? ⟨w.heap.size + 1, 1, none⟩ = some nilS ∧ W.cell? ⟨w.heap.size + 1, 2, none⟩ = some (.bool false)) ∧ W.frozen? ⟨w.heap.size + 1, 0, none⟩ = false ∧ W.frozen? ⟨w.heap.size + 1, 1, none⟩ = false ∧ W.frozen? ⟨w.heap.size + 1, 2, none⟩ = false) ∧
    ((W.cell? ⟨bt, 0, none⟩ = some uv ∧ W.cell? ⟨bt, 1, none⟩ = some bv ∧ W.cell? ⟨bt, 2, none⟩ = some (.bool rn)) ∧ W.frozen? ⟨bt, 0, none⟩ = false ∧ W.frozen? ⟨bt, 1, none⟩ = false ∧ W.frozen? ⟨bt, 2, none⟩ = false) := by
  obtain ⟨c0, c1, c2, c3, _⟩ := h.lk.cells
  exact ⟨⟨c0, c1, c2, c3, h.lk.free 3⟩, (pk_cells h.pb).1, athree h.rb, athree h.tb⟩
end
end Go.Proofs.YtfgajjfcjlejmaaDoor
