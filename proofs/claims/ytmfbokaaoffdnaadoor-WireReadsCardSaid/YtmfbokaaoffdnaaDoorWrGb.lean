/-
  The document's guess: its walk.
-/
import Derived.Test.YtmfbokaaoffdnaaDoorWrGa
import Derived.StillTailTactics
import Derived.Test.YtmfbokaaoffdnaaDoorTk
import Derived.Deep.AppendLies
import Derived.Deep.DeepCutAuto
import Derived.Deep.CutBlock
namespace Go.Proofs.YtmfbokaaoffdnaaDoor
set_option maxRecDepth 100000
set_option linter.unusedSimpArgs false
open Go Go.RowKit Wr
attribute [local go_sem] Oper.semAt_some

def pkt0 (l : List Nat) : Pkt := ⟨(takF l 0 1 : Nat), (takF l 1 1 : Nat), takF l 2 4, takF l 6 4, takF l 10 4, takF l 14 4, Gu.msg0 0⟩
/-- While the message is guessed: the result's box, the packet's, the message's, the claims. -/
structure GS (w : World) (l : List Nat) (m : Msg) (ad : Option Addr) (cap : Nat) (W : World) : Prop where
  below : Below w.heap.size w W
  rb : W.heap[w.heap.size]? = some (.cells pktZ 28 (0, 0))
  pb : W.heap[w.heap.size + 1]? = some (.cells (pktC (pkt0 l) none 0 0) 28 (0, 0))
  mb : W.heap[w.heap.size + 1 + 1]? = some (.cells (mgC m ad m.claims.length cap) 26 (0, 0))
  row : W.ownsRow (w.heap.size + 3) 50 2 (.slice ad m.claims.length cap) m.claims.length (csC m.claims)
theorem GS.set {w W : World} {l : List Nat} {m m' : Msg} {ad : Option Addr} {cap : Nat} (h : GS w l m ad cap W) (j : Nat) (u : Value) (hc : (mgC m ad m.claims.length cap).setIfInBounds j u = mgC m' ad m'.claims.length cap) (hcl : m'.claims = m.claims) :
    GS w l m' ad cap (W.setCell ⟨w.heap.size + 1 + 1, j, none⟩ u) := by
  have ho : ∀ k, k ≠ w.heap.size + 1 + 1 → (W.setCell ⟨w.heap.size + 1 + 1, j, none⟩ u).heap[k]? = W.heap[k]? := fun k hk => Below.heap_setCell _ _ _ _ hk
  refine ⟨h.below.setCell (by simp; omega) _, (ho _ (by omega)).trans h.rb, (ho _ (by omega)).trans h.pb, by rw [blk_set h.mb, hc], ?_⟩
  rw [hcl]
  exact owns_set h.row (by omega) u
theorem GS.cells {w W : World} {l : List Nat} {m : Msg} {ad : Option Addr} {cap : Nat} (h : GS w l m ad cap W) :
    (W.cell? ⟨w.heap.size + 1 + 1, 0, none⟩ = some (.int .i64 m.kind) ∧ W.cell? ⟨w.heap.size + 1 + 1, 1, none⟩ = some (.int .i64 m.cell) ∧ W.cell? ⟨w.heap.size + 1 + 1, 2, none⟩ = some (.int .u32 (m.gen : Nat)) ∧ W.cell? ⟨w.heap.size + 1 + 1, 3, none⟩ = some (.int .u64 (m.stamp : Nat)) ∧ W.cell? ⟨w.heap.size + 1 + 1, 4, none⟩ = some (.int .i64 m.prio) ∧ W.cell? ⟨w.heap.size + 1 + 1, 5, none⟩ = some (.int .i64 m.hops) ∧ W.cell? ⟨w.heap.size + 1 + 1, 6, none⟩ = some (.int .i64 m.origin) ∧ W.cell? ⟨w.heap.size + 1 + 1, 7, none⟩ = some (.int .i64 m.other) ∧ W.cell? ⟨w.heap.size + 1 + 1, 8, none⟩ = some (.slice ad m.claims.length cap)) ∧ ∀ j, W.frozen? ⟨w.heap.size + 1 + 1, j, none⟩ = false := by
  refine ⟨⟨?_, ?_, ?_, ?_, ?_, ?_, ?_, ?_, ?_⟩, fun j => blk_free h.mb j⟩ <;> (rw [blk_cell h.mb]; rfl)
/-- One claim more. -/
theorem GS.app {w W W2 : World} {l : List Nat} {m : Msg} {ad : Option Addr} {cap : Nat} (h : GS w l m ad cap W) {o : Obj} {c : Int × Nat} {ad' : Option Addr} {cap' : Nat}
    (hg : (W.alloc o).grownBy W2 (Value.slice ad m.claims.length cap).ownBlock) (hr : W2.ownsRow (w.heap.size + 3) 50 2 (.slice ad' (m.claims.length + 1) cap') (m.claims.length + 1) (csC m.claims ++ [.int .i64 c.1, .int .u32 (c.2 : Nat)])) :
    (W2.cell? ⟨w.heap.size + 1 + 1, 8, none⟩ = some (.slice ad m.claims.length cap) ∧ W2.frozen? ⟨w.heap.size + 1 + 1, 8, none⟩ = false) ∧ GS w l { m with claims := m.claims ++ [c] } ad' cap' (W2.setCell ⟨w.heap.size + 1 + 1, 8, none⟩ (.slice ad' (m.claims.length + 1) cap')) := by
  have hne : ∀ k, (Value.slice ad m.claims.length cap).ownBlock = some k → w.heap.size + 3 ≤ k := fun k e => (h.row.lt k e).1
  have hk : ∀ (k : Nat) (o' : Obj), k < w.heap.size + 3 → W.heap[k]? = some o' → W2.heap[k]? = some o' := by
    intro k o' hk ho
    rw [hg.block k (by rw [World.size_alloc]; have := blk_lt ho; omega) (fun e => by have := hne k e.symm; omega), Below.heap_alloc _ _ _ (blk_lt ho)]
    exact ho
  have hm2 := hk _ _ (by omega) h.mb
  have ho : ∀ k u, k ≠ w.heap.size + 1 + 1 → (W2.setCell ⟨w.heap.size + 1 + 1, 8, none⟩ u).heap[k]? = W2.heap[k]? := fun k u hk => Below.heap_setCell _ _ _ _ hk
  have hb2 : Below w.heap.size w W2 := (h.below.alloc h.below.size _).grown hg (by rw [World.size_alloc]; have := h.below.size; omega) (fun k e => by have := hne k e; omega)
  refine ⟨⟨by rw [blk_cell hm2]; rfl, blk_free hm2 8⟩, ⟨hb2.setCell (by simp; omega) _, (ho _ _ (by omega)).trans (hk _ _ (by omega) h.rb), (ho _ _ (by omega)).trans (hk _ _ (by omega) h.pb), ?_, ?_⟩⟩
  · rw [blk_set hm2]; simp
  · have e : csC (m.claims ++ [c]) = csC m.claims ++ [.int .i64 c.1, .int .u32 (c.2 : Nat)] := csC_snoc _ _
    simp only [List.length_append, List.length_cons, List.length_nil, Nat.zero_add]
    rw [e]
    exact owns_set hr (by omega) _
theorem clms_succ (l : List Nat) (a q : Nat) : Gu.clms l a (q + 1) = Gu.clms l a q ++ [(((takF l (a + 6 * q) 2 : Nat) : Int), takF l (a + 6 * q + 2) 4)] := by
  unfold Gu.clms
  rw [List.range_succ, List.map_append]; rfl
theorem clms_len (l : List Nat) (a q : Nat) : (Gu.clms l a q).length = q := by unfold Gu.clms; simp

theorem pk_cells {W : World} {b : Nat} {z0 z1 z2 z3 z4 z5 z6 z7 z8 z9 z10 z11 z12 z13 z14 : Value} {t : TypeId} (h : W.heap[b]? = some (.cells #[z0, z1, z2, z3, z4, z5, z6, z7, z8, z9, z10, z11, z12, z13, z14] t (0, 0))) :
    (W.cell? ⟨b, 0, none⟩ = some z0 ∧ W.cell? ⟨b, 1, none⟩ = some z1 ∧ W.cell? ⟨b, 2, none⟩ = some z2 ∧ W.cell? ⟨b, 3, none⟩ = some z3 ∧ W.cell? ⟨b, 4, none⟩ = some z4 ∧ W.cell? ⟨b, 5, none⟩ = some z5 ∧ W.cell? ⟨b, 6, none⟩ = some z6 ∧ W.cell? ⟨b, 7, none⟩ = some z7 ∧ W.cell? ⟨b, 8, none⟩ = some z8 ∧ W.cell? ⟨b, 9, none⟩ = some z9 ∧ W.cell? ⟨b, 10, none⟩ = some z10 ∧ W.cell? ⟨b, 11, none⟩ = some z11 ∧ W.cell? ⟨b, 12, none⟩ = some z12 ∧ W.cell? ⟨b, 13, none⟩ = some z13 ∧ W.cell? ⟨b, 14, none⟩ = some z14) ∧ ∀ j, W.frozen? ⟨b, j, none⟩ = false :=
  ⟨by refine ⟨?_, ?_, ?_, ?_, ?_, ?_, ?_, ?_, ?_, ?_, ?_, ?_, ?_, ?_, ?_⟩ <;> (rw [blk_cell h]; rfl), fun j => blk_free h j⟩
theorem pk_write {V : World} {b : Nat} {z0 z1 z2 z3 z4 z5 z6 z7 z8 z9 z10 z11 z12 z13 z14 : Value} {t : TypeId} (h : V.heap[b]? = some (.cells #[z0, z1, z2, z3, z4, z5, z6, z7, z8, z9, z10, z11, z12, z13, z14] t (0, 0))) (u6 u7 u8 u9 u10 u11 u12 u13 u14 : Value) :
    ((((((((((V.setCell ⟨b, 6, none⟩ u6).setCell ⟨b, 7, none⟩ u7).setCell ⟨b, 8, none⟩ u8).setCell ⟨b, 9, none⟩ u9).setCell ⟨b, 10, none⟩ u10).setCell ⟨b, 11, none⟩ u11).setCell ⟨b, 12, none⟩ u12).setCell ⟨b, 13, none⟩ u13).setCell ⟨b, 14, none⟩ u14).heap[b]? = some (.cells #[z0, z1, z2, z3, z4, z5, u6, u7, u8, u9, u10, u11, u12, u13, u14] t (0, 0))) ∧
    Kept (fun k => k = b) V (((((((((V.setCell ⟨b, 6, none⟩ u6).setCell ⟨b, 7, none⟩ u7).setCell ⟨b, 8, none⟩ u8).setCell ⟨b, 9, none⟩ u9).setCell ⟨b, 10, none⟩ u10).setCell ⟨b, 11, none⟩ u11).setCell ⟨b, 12, none⟩ u12).setCell ⟨b, 13, none⟩ u13).setCell ⟨b, 14, none⟩ u14) := by
  constructor
  · have h6 := blk_set h 6 u6
    have h7 := blk_set h6 7 u7
    have h8 := blk_set h7 8 u8
    have h9 := blk_set h8 9 u9
    have h10 := blk_set h9 10 u10
    have h11 := blk_set h10 11 u11
    have h12 := blk_set h11 12 u12
    have h13 := blk_set h12 13 u13
    have h14 := blk_set h13 14 u14
    simpa using h14
  · have k0 := Kept.refl (fun k => k = b) V
    have k6 := k0.setCell (p := ⟨b, 6, none⟩) (.inl rfl) u6
    have k7 := k6.setCell (p := ⟨b, 7, none⟩) (.inl rfl) u7
    have k8 := k7.setCell (p := ⟨b, 8, none⟩) (.inl rfl) u8
    have k9 := k8.setCell (p := ⟨b, 9, none⟩) (.inl rfl) u9
    have k10 := k9.setCell (p := ⟨b, 10, none⟩) (.inl rfl) u10
    have k11 := k10.setCell (p := ⟨b, 11, none⟩) (.inl rfl) u11
    have k12 := k11.setCell (p := ⟨b, 12, none⟩) (.inl rfl) u12
    have k13 := k12.setCell (p := ⟨b, 13, none⟩) (.inl rfl) u13
    exact k13.setCell (p := ⟨b, 14, none⟩) (.inl rfl) u14
theorem pk_all {V : World} {b : Nat} {z0 z1 z2 z3 z4 z5 z6 z7 z8 z9 z10 z11 z12 z13 z14 : Value} {t : TypeId} (h : V.heap[b]? = some (.cells #[z0, z1, z2, z3, z4, z5, z6, z7, z8, z9, z10, z11, z12, z13, z14] t (0, 0))) (u0 u1 u2 u3 u4 u5 u6 u7 u8 u9 u10 u11 u12 u13 u14 : Value) :
    ((((((((((((((((V.setCell ⟨b, 0, none⟩ u0).setCell ⟨b, 1, none⟩ u1).setCell ⟨b, 2, none⟩ u2).setCell ⟨b, 3, none⟩ u3).setCell ⟨b, 4, none⟩ u4).setCell ⟨b, 5, none⟩ u5).setCell ⟨b, 6, none⟩ u6).setCell ⟨b, 7, none⟩ u7).setCell ⟨b, 8, none⟩ u8).setCell ⟨b, 9, none⟩ u9).setCell ⟨b, 10, none⟩ u10).setCell ⟨b, 11, none⟩ u11).setCell ⟨b, 12, none⟩ u12).setCell ⟨b, 13, none⟩ u13).setCell ⟨b, 14, none⟩ u14)).heap[b]? = some (.cells #[u0, u1, u2, u3, u4, u5, u6, u7, u8, u9, u10, u11, u12, u13, u14] t (0, 0)) ∧ Kept (fun k => k = b) V (((((((((((((((V.setCell ⟨b, 0, none⟩ u0).setCell ⟨b, 1, none⟩ u1).setCell ⟨b, 2, none⟩ u2).setCell ⟨b, 3, none⟩ u3).setCell ⟨b, 4, none⟩ u4).setCell ⟨b, 5, none⟩ u5).setCell ⟨b, 6, none⟩ u6).setCell ⟨b, 7, none⟩ u7).setCell ⟨b, 8, none⟩ u8).setCell ⟨b, 9, none⟩ u9).setCell ⟨b, 10, none⟩ u10).setCell ⟨b, 11, none⟩ u11).setCell ⟨b, 12, none⟩ u12).setCell ⟨b, 13, none⟩ u13).setCell ⟨b, 14, none⟩ u14) := by
  constructor
  · have h0 := blk_set h 0 u0
    have h1 := blk_set h0 1 u1
    have h2 := blk_set h1 2 u2
    have h3 := blk_set h2 3 u3
    have h4 := blk_set h3 4 u4
    have h5 := blk_set h4 5 u5
    have h6 := blk_set h5 6 u6
    have h7 := blk_set h6 7 u7
    have h8 := blk_set h7 8 u8
    have h9 := blk_set h8 9 u9
    have h10 := blk_set h9 10 u10
    have h11 := blk_set h10 11 u11
    have h12 := blk_set h11 12 u12
    have h13 := blk_set h12 13 u13
    have h14 := blk_set h13 14 u14
    simpa using h14
  · have k0 := (Kept.refl (fun k => k = b) V).setCell (p := ⟨b, 0, none⟩) (.inl rfl) u0
    have k1 := k0.setCell (p := ⟨b, 1, none⟩) (.inl rfl) u1
    have k2 := k1.setCell (p := ⟨b, 2, none⟩) (.inl rfl) u2
    have k3 := k2.setCell (p := ⟨b, 3, none⟩) (.inl rfl) u3
    have k4 := k3.setCell (p := ⟨b, 4, none⟩) (.inl rfl) u4
    have k5 := k4.setCell (p := ⟨b, 5, none⟩) (.inl rfl) u5
    have k6 := k5.setCell (p := ⟨b, 6, none⟩) (.inl rfl) u6
    have k7 := k6.setCell (p := ⟨b, 7, none⟩) (.inl rfl) u7
    have k8 := k7.setCell (p := ⟨b, 8, none⟩) (.inl rfl) u8
    have k9 := k8.setCell (p := ⟨b, 9, none⟩) (.inl rfl) u9
    have k10 := k9.setCell (p := ⟨b, 10, none⟩) (.inl rfl) u10
    have k11 := k10.setCell (p := ⟨b, 11, none⟩) (.inl rfl) u11
    have k12 := k11.setCell (p := ⟨b, 12, none⟩) (.inl rfl) u12
    have k13 := k12.setCell (p := ⟨b, 13, none⟩) (.inl rfl) u13
    exact k13.setCell (p := ⟨b, 14, none⟩) (.inl rfl) u14
def GuessP (w : World) (l : List Nat) (e : Ending) (w' : World) : Prop :=
  ∃ A cap, e = .returned (pktA (Gu.guP l) A (Gu.guP l).msg.claims.length cap) ∧ ClaimsAt w' A (Gu.guP l).msg.claims ∧ Below w.heap.size w w' ∧ ∀ a, A = some a → w.heap.size ≤ a.block

set_option maxHeartbeats 4000000 in
theorem guess_any {w : World} {A : Option Addr} {l : List Nat} (capA : Nat) (hB : BytesAt w A l) (hlt : ∀ c ∈ l, c < 256) (hl : l.length ≤ 1000) :
    Calls Tryd.prog 29 #[.slice A l.length capA] w (GuessP w l) := by
  obtain ⟨P, hP⟩ : ∃ P : Ending → World → Prop, P = GuessP w l := ⟨_, rfl⟩
  have HQ : Hid (∀ m ad cap W, m = Gu.guM l → Below w.heap.size w W → W.ownsRow (w.heap.size + 3) 50 2 (.slice ad m.claims.length cap) m.claims.length (csC m.claims) → P (.returned (pktA { pkt0 l with msg := m } ad m.claims.length cap)) W) := by
    rw [hP]
    rintro m ad cap W rfl hb hr
    obtain ⟨A', cap', he, hC⟩ := claims_own hr
    injection he with h1 _ h2
    subst h1 h2
    refine ⟨ad, cap, rfl, hC, hb, fun a ha => ?_⟩
    rcases hr.2 with ⟨h3, _⟩ | ⟨g, c2, cur, h3, h4, _⟩
    · injection h3 with h3; rw [h3] at ha; cases ha
    · injection h3 with h3; rw [h3] at ha; cases ha; show w.heap.size ≤ g; omega
  rw [← hP]
  clear hP
  have HTK : Hid (∀ W, Below w.heap.size w W → ∀ a k : Nat, a ≤ 100000 → k ≤ 8 → ∀ ai ki : Int, (a : Int) = ai → (k : Int) = ki → Calls Tryd.prog 34 #[.slice A l.length capA, .int .i64 ai, .int .i64 ki] W fun e w' => e = .returned (.int .u64 (takF l a k : Nat)) ∧ w' = W) := fun W hb a k ha hk ai ki h1 h2 => by
    subst h1 h2
    exact rtake_any capA (hB.below hb) hlt (by omega) a k ha hk
  have HLT : Hid (∀ a k, takF l a k < 256 ^ k) := fun a k => takF_lt hlt a k
  obtain ⟨n, hn⟩ : ∃ n, n = l.length := ⟨_, rfl⟩
  rw [← hn] at HTK ⊢
  clear hn hB hlt hl
  have b01 := HLT.out 0 1
  have b11 := HLT.out 1 1
  have b24 := HLT.out 2 4
  have b64 := HLT.out 6 4
  have b104 := HLT.out 10 4
  have b144 := HLT.out 14 4
  have b181 := HLT.out 18 1
  have p0 : Hid (pktC (pkt0 l) none 0 0 = #[.int .i64 (takF l 0 1 : Nat), .int .i64 (takF l 1 1 : Nat), .int .u32 (takF l 2 4 : Nat), .int .u32 (takF l 6 4 : Nat), .int .u32 (takF l 10 4 : Nat), .int .u32 (takF l 14 4 : Nat), .int .i64 0, .int .i64 0, .int .u32 0, .int .u64 0, .int .i64 0, .int .i64 0, .int .i64 0, .int .i64 0, .slice none 0 0]) := rfl
  have T1 := fun (W : World) (hb : Below w.heap.size w W) => HTK.out W hb 0 1 (by omega) (by omega) 0 1 rfl rfl
  have T2 := fun (W : World) (hb : Below w.heap.size w W) => HTK.out W hb 1 1 (by omega) (by omega) 1 1 rfl rfl
  have T3 := fun (W : World) (hb : Below w.heap.size w W) => HTK.out W hb 2 4 (by omega) (by omega) 2 4 rfl rfl
  have T4 := fun (W : World) (hb : Below w.heap.size w W) => HTK.out W hb 6 4 (by omega) (by omega) 6 4 rfl rfl
  have T5 := fun (W : World) (hb : Below w.heap.size w W) => HTK.out W hb 10 4 (by omega) (by omega) 10 4 rfl rfl
  have T6 := fun (W : World) (hb : Below w.heap.size w W) => HTK.out W hb 14 4 (by omega) (by omega) 14 4 rfl rfl
  have T7 := fun (W : World) (hb : Below w.heap.size w W) => HTK.out W hb 18 1 (by omega) (by omega) 18 1 rfl rfl
  have HGS0 : Hid (∀ k : Nat, k = takF l 18 1 → ∀ W, W = ((w.alloc (.cells pktZ 28)).alloc (.cells (pktC (pkt0 l) none 0 0) 28)).alloc (.cells #[.int .i64 (k : Nat), .int .i64 0, .int .u32 0, .int .u64 0, .int .i64 0, .int .i64 0, .int .i64 0, .int .i64 0, .slice none 0 0] 26) → GS w l (Gu.msg0 (k : Nat)) none 0 W) := by
    rintro k hk W rfl
    refine ⟨(((Below.refl _ w).alloc (Nat.le_refl _) _).alloc (by simp) _).alloc (by simp only [World.size_alloc]; omega) _, ?_, ?_, ?_, ⟨by simp [Gu.msg0, csC], .inl ⟨rfl, rfl⟩⟩⟩
    · rw [Below.heap_alloc _ _ _ (by simp only [World.size_alloc]; omega), Below.heap_alloc _ _ _ (by simp)]
      exact World.alloc_heap_new w _
    · rw [Below.heap_alloc _ _ _ (by simp only [World.size_alloc]; omega)]
      have := World.alloc_heap_new (w.alloc (.cells pktZ 28)) (.cells (pktC (pkt0 l) none 0 0) 28)
      rwa [World.size_alloc] at this
    · have := World.alloc_heap_new ((w.alloc (.cells pktZ 28)).alloc (.cells (pktC (pkt0 l) none 0 0) 28)) (.cells #[.int .i64 (k : Nat), .int .i64 0, .int .u32 0, .int .u64 0, .int .i64 0, .int .i64 0, .int .i64 0, .int .i64 0, .slice none 0 0] 26)
      rw [World.size_alloc, World.size_alloc] at this
      exact this
  have HFO : Hid (∀ k : Nat, k = takF l 18 1 → ((nmI (k : Nat)).foldl (Gu.stepM l) (Gu.msg0 (k : Nat), 19)).1 = Gu.guM l) := fun k hk => by rw [hk]; rfl
  rw [p0.out] at HGS0
  clear p0
  generalize takF l 0 1 = f0 at *
  generalize takF l 1 1 = f1 at *
  generalize takF l 2 4 = f2 at *
  generalize takF l 6 4 = f3 at *
  generalize takF l 10 4 = f4 at *
  generalize takF l 14 4 = f5 at *
  generalize takF l 18 1 = kd at *
  have x0 : IntKind.i64.wrap (f0 : Int) = (f0 : Int) := IntWalk.i64_in _ (by omega)
  have x1 : IntKind.i64.wrap (f1 : Int) = (f1 : Int) := IntWalk.i64_in _ (by omega)
  have x2 : IntKind.u32.wrap (f2 : Int) = (f2 : Int) := by simp [IntKind.wrap, IntKind.bits, IntKind.signed]; omega
  have x3 : IntKind.u32.wrap (f3 : Int) = (f3 : Int) := by simp [IntKind.wrap, IntKind.bits, IntKind.signed]; omega
  have x4 : IntKind.u32.wrap (f4 : Int) = (f4 : Int) := by simp [IntKind.wrap, IntKind.bits, IntKind.signed]; omega
  have x5 : IntKind.u32.wrap (f5 : Int) = (f5 : Int) := by simp [IntKind.wrap, IntKind.bits, IntKind.signed]; omega
  have x6 : IntKind.i64.wrap (kd : Int) = (kd : Int) := IntWalk.i64_in _ (by omega)
  have G1 := Lib.hid (And.intro T1 (And.intro T2 (And.intro T3 (And.intro T4 (And.intro T5 (And.intro T6 T7))))))
  have BN : Hid (∀ o, Below w.heap.size w (w.alloc o)) := fun o => (Below.refl _ w).alloc (Nat.le_refl _) o
  have BN2 : Hid (∀ o o', Below w.heap.size w ((w.alloc o).alloc o')) := fun o o' => ((Below.refl _ w).alloc (Nat.le_refl _) o).alloc (by simp) o'
  clear b01 b11 b24 b64 b104 b144 b181 T1 T2 T3 T4 T5 T6 T7
  go_enter Tryd.func29, Tryd.ntmps29
  go_wp2_with (first
    | ((with_reducible refine (G1.out.1 _ (BN.out _)).mono ?_); rintro e w' ⟨rfl, rfl⟩)
    | ((with_reducible refine (G1.out.2.1 _ (BN.out _)).mono ?_); rintro e w' ⟨rfl, rfl⟩)
    | ((with_reducible refine (G1.out.2.2.1 _ (BN.out _)).mono ?_); rintro e w' ⟨rfl, rfl⟩)
    | ((with_reducible refine (G1.out.2.2.2.1 _ (BN.out _)).mono ?_); rintro e w' ⟨rfl, rfl⟩)
    | ((with_reducible refine (G1.out.2.2.2.2.1 _ (BN.out _)).mono ?_); rintro e w' ⟨rfl, rfl⟩)
    | ((with_reducible refine (G1.out.2.2.2.2.2.1 _ (BN.out _)).mono ?_); rintro e w' ⟨rfl, rfl⟩)
    | ((with_reducible refine (G1.out.2.2.2.2.2.2 _ (BN2.out _ _)).mono ?_); rintro e w' ⟨rfl, rfl⟩))
  clear BN BN2 G1 x0 x1 x2 x3 x4 x5 x6
  obtain ⟨W0, hW0⟩ : ∃ W0, ((w.alloc (.cells pktZ 28)).alloc (.cells #[.int .i64 (f0 : Nat), .int .i64 (f1 : Nat), .int .u32 (f2 : Nat), .int .u32 (f3 : Nat), .int .u32 (f4 : Nat), .int .u32 (f5 : Nat), .int .i64 0, .int .i64 0, .int .u32 0, .int .u64 0, .int .i64 0, .int .i64 0, .int .i64 0, .int .i64 0, .slice none 0 0] 28)).alloc (.cells #[.int .i64 (kd : Nat), .int .i64 0, .int .u32 0, .int .u64 0, .int .i64 0, .int .i64 0, .int .i64 0, .int .i64 0, .slice none 0 0] 26) = W0 := ⟨_, rfl⟩
  have HG0 := Lib.hid (HGS0.out kd rfl W0 hW0.symm)
  obtain ⟨nm, hnm⟩ : ∃ nm, nm = nmI (kd : Nat) := ⟨_, rfl⟩
  obtain ⟨S, hS⟩ : ∃ S, S = strN nm := ⟨_, rfl⟩
  have RM : Hid (∀ W, Calls Tryd.prog 19 #[.int .i64 (kd : Int)] W fun e w' => e = .returned (.string S) ∧ w' = W) := fun W => by
    have := rnames_any W (kd : Int)
    unfold nmV at this
    rwa [← hnm, ← hS] at this
  obtain ⟨N, hNN⟩ : ∃ N, N = nm.length := ⟨_, rfl⟩
  have hsz : S.size = N := by rw [hS, hNN]; show ((nm.map UInt8.ofNat).toArray).size = nm.length; simp
  have HI : Hid (∀ i, i < N → ∀ W, (Instr.index 9 (.string S) (.int .i64 (i : Int))).run Tryd.prog W = .ok (.int .u8 ((nm.getD i 0 : Nat) : Int)) W) := by
    intro i hi W
    rw [run_index_string W _ S .i64 i Tryd.underlying9, dif_pos ⟨by omega, by rw [hsz]; omega⟩]
    have hil : i < nm.length := by omega
    have : (S[((i : Int)).toNat]'(by rw [hsz]; omega)).toNat = nm.getD i 0 := by
      subst hS
      show ((nm.map UInt8.ofNat).toArray[((i : Int)).toNat]'(by simp; omega)).toNat = _
      have h256 := nm_lt (kd : Int) _ (by rw [← hnm]; exact List.getElem_mem hil)
      simp [List.getD, hil, Nat.mod_eq_of_lt h256]
    rw [this]
  have HLET : Hid (∀ j, j < N → nm.getD j 0 = 99 ∨ nm.getD j 0 = 103 ∨ nm.getD j 0 = 115 ∨ nm.getD j 0 = 112 ∨ nm.getD j 0 = 104 ∨ nm.getD j 0 = 111 ∨ nm.getD j 0 = 119 ∨ nm.getD j 0 = 108) := fun j hj => by
    have h1 := nm_letters (kd : Int) (nm.getD j 0) (by rw [← hnm, List.getD_eq_getElem?_getD, List.getElem?_eq_getElem (by omega)]; exact List.getElem_mem _)
    exact h1
  have hN5 : N ≤ 5 := by rw [hNN, hnm]; exact nm_five _
  have HF1 : Hid (∀ j, j < N → ∀ s, (nm.take (j + 1)).foldl (Gu.stepM l) s = Gu.stepM l ((nm.take j).foldl (Gu.stepM l) s) (nm.getD j 0)) := fun j hj s => by
    rw [List.take_add_one, List.getElem?_eq_getElem (by omega), List.foldl_append, List.getD_eq_getElem?_getD, List.getElem?_eq_getElem (by omega)]
    rfl
  have HFE : Hid ((((nm.take N).foldl (Gu.stepM l) (Gu.msg0 (kd : Nat), 19)).1 = Gu.guM l)) := by rw [hNN, List.take_length, hnm]; exact HFO.out kd rfl
  have HSz := Lib.hid hsz
  have HN5 := Lib.hid hN5
  clear hnm hS hNN HFO HGS0 hsz hN5
  go_wp2_with fail
  rw [hW0]
  clear hW0
  refine (RM.out _).mono ?_
  rintro e w' ⟨rfl, hw'⟩
  rw [hw']
  clear hw' w' RM
  have hsz2 := HSz.out
  go_wp2
  go_loopw [6, 7] (fun at_ i wr => ∃ (j a : Nat) (m : Msg) (ad : Option Addr) (cap : Nat), j ≤ N ∧ i = .int .i64 (j : Int) ∧ at_ = .int .i64 (a : Int) ∧ (nm.take j).foldl (Gu.stepM l) (Gu.msg0 (kd : Nat), 19) = (m, a) ∧ a ≤ 19 + 1600 * j ∧ m.claims.length ≤ 300 * j ∧ GS w l m ad cap wr) (fun _ i _ => N - (intOf i).toNat)
  case atStart => exact ⟨0, 19, _, none, 0, Nat.zero_le _, rfl, rfl, rfl, by omega, by simp [Gu.msg0], HG0.out⟩
  case round =>
    obtain ⟨j, a, m, ad, cap, hj, rfl, rfl, hfo, ha, hcl, hG⟩ := hrel
    rename World => V
    clear HG0
    have hN5 := HN5.out
    by_cases hjN : j < N
    · have hx := HI.out j hjN
      have hlet := HLET.out j hjN
      have hstep := HF1.out j hjN (Gu.msg0 (kd : Nat), 19)
      rw [hfo] at hstep
      generalize nm.getD j 0 = x at hx hlet hstep
      have HNX : Hid (∀ (a2 : Nat) (m2 : Msg) (ad2 : Option Addr) (cap2 : Nat) (W2 : World), Gu.stepM l (m, a) x = (m2, a2) → a2 ≤ a + 1600 → m2.claims.length ≤ m.claims.length + 300 → GS w l m2 ad2 cap2 W2 →
          ∃ (j' a' : Nat) (m' : Msg) (ad' : Option Addr) (cap' : Nat), j' ≤ N ∧ (Value.int .i64 ((j : Int) + 1)) = .int .i64 (j' : Int) ∧ (Value.int .i64 (a2 : Int)) = .int .i64 (a' : Int) ∧ (nm.take j').foldl (Gu.stepM l) (Gu.msg0 (kd : Nat), 19) = (m', a') ∧ a' ≤ 19 + 1600 * j' ∧ m'.claims.length ≤ 300 * j' ∧ GS w l m' ad' cap' W2) :=
        fun a2 m2 ad2 cap2 W2 h1 h2 h3 h4 => ⟨j + 1, a2, m2, ad2, cap2, hjN, by push_cast; rfl, rfl, by rw [hstep, h1], by omega, by omega, h4⟩
      have j0 : (0 : Int) ≤ (j : Int) := by omega
      have j1 : (j : Int) < (N : Int) := by omega
      have xj : IntKind.i64.wrap ((j : Int) + 1) = (j : Int) + 1 := IntWalk.i64_in _ (by omega)
      have d0 : decide ((j : Int) < (N : Int)) = true := by simpa using hjN
      have HJ := Lib.hid hjN
      have HAB : Hid (a ≤ 10000 ∧ m.claims.length ≤ 2000) := ⟨by omega, by omega⟩
      have HGG := Lib.hid hG
      obtain ⟨⟨c0, c1, c2, c3, c4, c5, c6, c7, c8⟩, fz⟩ := hG.cells
      have HTA := Lib.hid (fun (k : Nat) (hk : k ≤ 8) (ki : Int) (h2 : (k : Int) = ki) => HTK.out V hG.below a k (by omega) hk (a : Int) ki rfl h2)
      have HLA := Lib.hid (HLT.out a)
      clear hfo ha hcl hG hj hjN hstep HI HLET HF1 HFE hN5
      rcases hlet with rfl | rfl | rfl | rfl | rfl | rfl | rfl | rfl
      · -- a cell
        have hT := HTA.out 2 (by omega) 2 rfl
        have hb := HLA.out 2
        have HX : Hid (∀ v : Nat, v = takF l a 2 → ∃ (j' a' : Nat) (m' : Msg) (ad' : Option Addr) (cap' : Nat), j' ≤ N ∧ (Value.int .i64 ((j : Int) + 1)) = .int .i64 (j' : Int) ∧ (Value.int .i64 ((a : Int) + 2)) = .int .i64 (a' : Int) ∧ (nm.take j').foldl (Gu.stepM l) (Gu.msg0 (kd : Nat), 19) = (m', a') ∧ a' ≤ 19 + 1600 * j' ∧ m'.claims.length ≤ 300 * j' ∧ GS w l m' ad' cap' (V.setCell ⟨w.heap.size + 1 + 1, 1, none⟩ (.int .i64 (v : Int)))) := by
          intro v hv
          have h1 := HNX.out (a + 2) { m with cell := (v : Nat) } ad cap (V.setCell ⟨w.heap.size + 1 + 1, 1, none⟩ (.int .i64 (v : Int))) (by subst hv; rfl) (by omega) (by simp) (HGG.out.set 1 (.int .i64 (v : Int)) rfl rfl)
          rwa [show ((a + 2 : Nat) : Int) = (a : Int) + 2 by push_cast; rfl] at h1
        have HX := Lib.hid (HX.out _ rfl)
        generalize takF l a 2 = v at *
        have xw : IntKind.i64.wrap (v : Int) = (v : Int) := IntWalk.i64_in _ (by omega)
        have xa : IntKind.i64.wrap ((a : Int) + 2) = (a : Int) + 2 := IntWalk.i64_in _ (by have := HAB.out; omega)
        have HT := Lib.hid hT
        have fzi := fz 1
        clear hT hb HTA HLA HNX HGG fz
        go_wp2_with fail
        refine HT.out.mono ?_
        rintro e w' ⟨rfl, hw'⟩
        rw [hw']
        clear hw' w' HT
        go_wp2
        exact ⟨HX.out, by simp [intOf]; have := HJ.out; omega⟩
      · -- a gen
        have hT := HTA.out 4 (by omega) 4 rfl
        have hb := HLA.out 4
        have HX : Hid (∀ v : Nat, v = takF l a 4 → ∃ (j' a' : Nat) (m' : Msg) (ad' : Option Addr) (cap' : Nat), j' ≤ N ∧ (Value.int .i64 ((j : Int) + 1)) = .int .i64 (j' : Int) ∧ (Value.int .i64 ((a : Int) + 4)) = .int .i64 (a' : Int) ∧ (nm.take j').foldl (Gu.stepM l) (Gu.msg0 (kd : Nat), 19) = (m', a') ∧ a' ≤ 19 + 1600 * j' ∧ m'.claims.length ≤ 300 * j' ∧ GS w l m' ad' cap' (V.setCell ⟨w.heap.size + 1 + 1, 2, none⟩ (.int .u32 (v : Int)))) := by
          intro v hv
          have h1 := HNX.out (a + 4) { m with gen := v } ad cap (V.setCell ⟨w.heap.size + 1 + 1, 2, none⟩ (.int .u32 (v : Int))) (by subst hv; rfl) (by omega) (by simp) (HGG.out.set 2 (.int .u32 (v : Int)) rfl rfl)
          rwa [show ((a + 4 : Nat) : Int) = (a : Int) + 4 by push_cast; rfl] at h1
        have HX := Lib.hid (HX.out _ rfl)
        generalize takF l a 4 = v at *
        have xw : IntKind.u32.wrap (v : Int) = (v : Int) := by simp [IntKind.wrap, IntKind.bits, IntKind.signed]; omega
        have xa : IntKind.i64.wrap ((a : Int) + 4) = (a : Int) + 4 := IntWalk.i64_in _ (by have := HAB.out; omega)
        have HT := Lib.hid hT
        have fzi := fz 2
        clear hT hb HTA HLA HNX HGG fz
        go_wp2_with fail
        refine HT.out.mono ?_
        rintro e w' ⟨rfl, hw'⟩
        rw [hw']
        clear hw' w' HT
        go_wp2
        exact ⟨HX.out, by simp [intOf]; have := HJ.out; omega⟩
      · -- a stamp
        have hT := HTA.out 8 (by omega) 8 rfl
        have hb := HLA.out 8
        have HX : Hid (∀ v : Nat, v = takF l a 8 → ∃ (j' a' : Nat) (m' : Msg) (ad' : Option Addr) (cap' : Nat), j' ≤ N ∧ (Value.int .i64 ((j : Int) + 1)) = .int .i64 (j' : Int) ∧ (Value.int .i64 ((a : Int) + 8)) = .int .i64 (a' : Int) ∧ (nm.take j').foldl (Gu.stepM l) (Gu.msg0 (kd : Nat), 19) = (m', a') ∧ a' ≤ 19 + 1600 * j' ∧ m'.claims.length ≤ 300 * j' ∧ GS w l m' ad' cap' (V.setCell ⟨w.heap.size + 1 + 1, 3, none⟩ (.int .u64 (v : Int)))) := by
          intro v hv
          have h1 := HNX.out (a + 8) { m with stamp := v } ad cap (V.setCell ⟨w.heap.size + 1 + 1, 3, none⟩ (.int .u64 (v : Int))) (by subst hv; rfl) (by omega) (by simp) (HGG.out.set 3 (.int .u64 (v : Int)) rfl rfl)
          rwa [show ((a + 8 : Nat) : Int) = (a : Int) + 8 by push_cast; rfl] at h1
        have HX := Lib.hid (HX.out _ rfl)
        generalize takF l a 8 = v at *
        
        have xa : IntKind.i64.wrap ((a : Int) + 8) = (a : Int) + 8 := IntWalk.i64_in _ (by have := HAB.out; omega)
        have HT := Lib.hid hT
        have fzi := fz 3
        clear hT hb HTA HLA HNX HGG fz
        go_wp2_with fail
        refine HT.out.mono ?_
        rintro e w' ⟨rfl, hw'⟩
        rw [hw']
        clear hw' w' HT
        go_wp2
        exact ⟨HX.out, by simp [intOf]; have := HJ.out; omega⟩
      · -- a prio
        have hT := HTA.out 1 (by omega) 1 rfl
        have hb := HLA.out 1
        have HX : Hid (∀ v : Nat, v = takF l a 1 → ∃ (j' a' : Nat) (m' : Msg) (ad' : Option Addr) (cap' : Nat), j' ≤ N ∧ (Value.int .i64 ((j : Int) + 1)) = .int .i64 (j' : Int) ∧ (Value.int .i64 ((a : Int) + 1)) = .int .i64 (a' : Int) ∧ (nm.take j').foldl (Gu.stepM l) (Gu.msg0 (kd : Nat), 19) = (m', a') ∧ a' ≤ 19 + 1600 * j' ∧ m'.claims.length ≤ 300 * j' ∧ GS w l m' ad' cap' (V.setCell ⟨w.heap.size + 1 + 1, 4, none⟩ (.int .i64 (v : Int)))) := by
          intro v hv
          have h1 := HNX.out (a + 1) { m with prio := (v : Nat) } ad cap (V.setCell ⟨w.heap.size + 1 + 1, 4, none⟩ (.int .i64 (v : Int))) (by subst hv; rfl) (by omega) (by simp) (HGG.out.set 4 (.int .i64 (v : Int)) rfl rfl)
          rwa [show ((a + 1 : Nat) : Int) = (a : Int) + 1 by push_cast; rfl] at h1
        have HX := Lib.hid (HX.out _ rfl)
        generalize takF l a 1 = v at *
        have xw : IntKind.i64.wrap (v : Int) = (v : Int) := IntWalk.i64_in _ (by omega)
        have xa : IntKind.i64.wrap ((a : Int) + 1) = (a : Int) + 1 := IntWalk.i64_in _ (by have := HAB.out; omega)
        have HT := Lib.hid hT
        have fzi := fz 4
        clear hT hb HTA HLA HNX HGG fz
        go_wp2_with fail
        refine HT.out.mono ?_
        rintro e w' ⟨rfl, hw'⟩
        rw [hw']
        clear hw' w' HT
        go_wp2
        exact ⟨HX.out, by simp [intOf]; have := HJ.out; omega⟩
      · -- hops
        have hT := HTA.out 1 (by omega) 1 rfl
        have hb := HLA.out 1
        have HX : Hid (∀ v : Nat, v = takF l a 1 → ∃ (j' a' : Nat) (m' : Msg) (ad' : Option Addr) (cap' : Nat), j' ≤ N ∧ (Value.int .i64 ((j : Int) + 1)) = .int .i64 (j' : Int) ∧ (Value.int .i64 ((a : Int) + 1)) = .int .i64 (a' : Int) ∧ (nm.take j').foldl (Gu.stepM l) (Gu.msg0 (kd : Nat), 19) = (m', a') ∧ a' ≤ 19 + 1600 * j' ∧ m'.claims.length ≤ 300 * j' ∧ GS w l m' ad' cap' (V.setCell ⟨w.heap.size + 1 + 1, 5, none⟩ (.int .i64 (v : Int)))) := by
          intro v hv
          have h1 := HNX.out (a + 1) { m with hops := (v : Nat) } ad cap (V.setCell ⟨w.heap.size + 1 + 1, 5, none⟩ (.int .i64 (v : Int))) (by subst hv; rfl) (by omega) (by simp) (HGG.out.set 5 (.int .i64 (v : Int)) rfl rfl)
          rwa [show ((a + 1 : Nat) : Int) = (a : Int) + 1 by push_cast; rfl] at h1
        have HX := Lib.hid (HX.out _ rfl)
        generalize takF l a 1 = v at *
        have xw : IntKind.i64.wrap (v : Int) = (v : Int) := IntWalk.i64_in _ (by omega)
        have xa : IntKind.i64.wrap ((a : Int) + 1) = (a : Int) + 1 := IntWalk.i64_in _ (by have := HAB.out; omega)
        have HT := Lib.hid hT
        have fzi := fz 5
        clear hT hb HTA HLA HNX HGG fz
        go_wp2_with fail
        refine HT.out.mono ?_
        rintro e w' ⟨rfl, hw'⟩
        rw [hw']
        clear hw' w' HT
        go_wp2
        exact ⟨HX.out, by simp [intOf]; have := HJ.out; omega⟩
      · -- an origin
        have hT := HTA.out 1 (by omega) 1 rfl
        have hb := HLA.out 1
        have HX : Hid (∀ v : Nat, v = takF l a 1 → ∃ (j' a' : Nat) (m' : Msg) (ad' : Option Addr) (cap' : Nat), j' ≤ N ∧ (Value.int .i64 ((j : Int) + 1)) = .int .i64 (j' : Int) ∧ (Value.int .i64 ((a : Int) + 1)) = .int .i64 (a' : Int) ∧ (nm.take j').foldl (Gu.stepM l) (Gu.msg0 (kd : Nat), 19) = (m', a') ∧ a' ≤ 19 + 1600 * j' ∧ m'.claims.length ≤ 300 * j' ∧ GS w l m' ad' cap' (V.setCell ⟨w.heap.size + 1 + 1, 6, none⟩ (.int .i64 (v : Int)))) := by
          intro v hv
          have h1 := HNX.out (a + 1) { m with origin := (v : Nat) } ad cap (V.setCell ⟨w.heap.size + 1 + 1, 6, none⟩ (.int .i64 (v : Int))) (by subst hv; rfl) (by omega) (by simp) (HGG.out.set 6 (.int .i64 (v : Int)) rfl rfl)
          rwa [show ((a + 1 : Nat) : Int) = (a : Int) + 1 by push_cast; rfl] at h1
        have HX := Lib.hid (HX.out _ rfl)
        generalize takF l a 1 = v at *
        have xw : IntKind.i64.wrap (v : Int) = (v : Int) := IntWalk.i64_in _ (by omega)
        have xa : IntKind.i64.wrap ((a : Int) + 1) = (a : Int) + 1 := IntWalk.i64_in _ (by have := HAB.out; omega)
        have HT := Lib.hid hT
        have fzi := fz 6
        clear hT hb HTA HLA HNX HGG fz
        go_wp2_with fail
        refine HT.out.mono ?_
        rintro e w' ⟨rfl, hw'⟩
        rw [hw']
        clear hw' w' HT
        go_wp2
        exact ⟨HX.out, by simp [intOf]; have := HJ.out; omega⟩
      · -- other
        have hT := HTA.out 1 (by omega) 1 rfl
        have hb := HLA.out 1
        have HX : Hid (∀ v : Nat, v = takF l a 1 → ∀ (W2 : World) (z : Int), z = Gu.oth v → GS w l { m with other := z } ad cap W2 → ∃ (j' a' : Nat) (m' : Msg) (ad' : Option Addr) (cap' : Nat), j' ≤ N ∧ (Value.int .i64 ((j : Int) + 1)) = .int .i64 (j' : Int) ∧ (Value.int .i64 ((a : Int) + 1)) = .int .i64 (a' : Int) ∧ (nm.take j').foldl (Gu.stepM l) (Gu.msg0 (kd : Nat), 19) = (m', a') ∧ a' ≤ 19 + 1600 * j' ∧ m'.claims.length ≤ 300 * j' ∧ GS w l m' ad' cap' W2) := by
          intro v hv W2 z hz hg
          have h1 := HNX.out (a + 1) { m with other := z } ad cap W2 (by rw [hz]; subst hv; rfl) (by omega) (by simp) hg
          rwa [show ((a + 1 : Nat) : Int) = (a : Int) + 1 by push_cast; rfl] at h1
        have HX := Lib.hid (HX.out _ rfl)
        generalize takF l a 1 = v at *
        have xw : IntKind.i64.wrap (v : Int) = (v : Int) := IntWalk.i64_in _ (by omega)
        have xa : IntKind.i64.wrap ((a : Int) + 1) = (a : Int) + 1 := IntWalk.i64_in _ (by have := HAB.out; omega)
        have HT := Lib.hid hT
        have fzi := fz 7
        have g1 := HGG.out.set (m' := { m with other := (v : Nat) }) 7 (.int .i64 (v : Int)) rfl rfl
        have c7' := g1.cells.1.2.2.2.2.2.2.2.1
        have fz7' := g1.cells.2 7
        by_cases h255 : v = 255
        · have e1 : ((v : Int) == 255) = true := by subst h255; rfl
          have HY := Lib.hid (HX.out _ (-1) (by unfold Gu.oth; rw [if_pos h255]) (g1.set (m' := { m with other := -1 }) 7 (.int .i64 (-1)) rfl rfl))
          clear hT hb HTA HLA HNX HGG fz g1 HX h255
          go_wp2_with fail
          refine HT.out.mono ?_
          rintro e w' ⟨rfl, hw'⟩
          rw [hw']
          clear hw' w' HT
          go_wp2
          exact ⟨HY.out, by simp [intOf]; have := HJ.out; omega⟩
        · have e1 : ((v : Int) == 255) = false := by simp; omega
          have HY := Lib.hid (HX.out _ (v : Nat) (by unfold Gu.oth; rw [if_neg h255]) g1)
          clear hT hb HTA HLA HNX HGG fz g1 HX h255
          go_wp2_with fail
          refine HT.out.mono ?_
          rintro e w' ⟨rfl, hw'⟩
          rw [hw']
          clear hw' w' HT
          go_wp2
          exact ⟨HY.out, by simp [intOf]; have := HJ.out; omega⟩
      · -- claims
        have hT := HTA.out 1 (by omega) 1 rfl
        have hb := HLA.out 1
        have HX : Hid (∀ v : Nat, v = takF l a 1 → ∀ (W2 : World) (ad2 : Option Addr) (cap2 : Nat), GS w l { m with claims := m.claims ++ Gu.clms l (a + 1) v } ad2 cap2 W2 → ∃ (j' a' : Nat) (m' : Msg) (ad' : Option Addr) (cap' : Nat), j' ≤ N ∧ (Value.int .i64 ((j : Int) + 1)) = .int .i64 (j' : Int) ∧ (Value.int .i64 ((a + 1 + 6 * v : Nat) : Int)) = .int .i64 (a' : Int) ∧ (nm.take j').foldl (Gu.stepM l) (Gu.msg0 (kd : Nat), 19) = (m', a') ∧ a' ≤ 19 + 1600 * j' ∧ m'.claims.length ≤ 300 * j' ∧ GS w l m' ad' cap' W2) := by
          intro v hv W2 ad2 cap2 hg
          exact HNX.out (a + 1 + 6 * v) { m with claims := m.claims ++ Gu.clms l (a + 1) v } ad2 cap2 W2 (by subst hv; rfl) (by omega) (by rw [List.length_append, clms_len]; omega) hg
        have HX := Lib.hid (HX.out _ rfl)
        generalize takF l a 1 = v at *
        have xw : IntKind.i64.wrap (v : Int) = (v : Int) := IntWalk.i64_in _ (by omega)
        have xa : IntKind.i64.wrap ((a : Int) + 1) = (a : Int) + 1 := IntWalk.i64_in _ (by have := HAB.out; omega)
        have HT := Lib.hid hT
        have HVB : Hid (v < 256) := by show v < 256; simpa using hb
        have HS : Hid (∃ (q : Nat) (ad' : Option Addr) (cap' : Nat), q ≤ v ∧ (Value.int .i64 ((a : Int) + 1)) = .int .i64 ((a + 1 + 6 * q : Nat) : Int) ∧ (Value.int .i64 0) = .int .i64 (q : Int) ∧ GS w l { m with claims := m.claims ++ Gu.clms l (a + 1) q } ad' cap' V) :=
          ⟨0, ad, cap, Nat.zero_le _, by push_cast; rfl, rfl, by rw [show m.claims ++ Gu.clms l (a + 1) 0 = m.claims by simp [Gu.clms]]; exact HGG.out⟩
        clear hT hb HTA HLA HNX HGG fz c0 c1 c2 c3 c4 c5 c6 c7 c8
        go_wp2_with fail
        refine HT.out.mono ?_
        rintro e w' ⟨rfl, hw'⟩
        rw [hw']
        clear hw' w' HT
        go_wp2
        go_loopw [6, 9] (fun at_ k wr => ∃ (q : Nat) (ad' : Option Addr) (cap' : Nat), q ≤ v ∧ at_ = .int .i64 ((a + 1 + 6 * q : Nat) : Int) ∧ k = .int .i64 (q : Int) ∧ GS w l { m with claims := m.claims ++ Gu.clms l (a + 1) q } ad' cap' wr) (fun _ k _ => v - (intOf k).toNat)
        case atStart => exact HS.out
        case round =>
          obtain ⟨q, ad', cap', hq, rfl, rfl, hG⟩ := hrel
          rename World => U
          clear HS
          have hvb := HVB.out
          have hab := HAB.out
          by_cases hqv : q < v
          · have d1 : decide ((q : Int) < (v : Int)) = true := by simpa using hqv
            have d2 : decide (q < v) = true := by simpa using hqv
            have xq : IntKind.i64.wrap ((q : Int) + 1) = (q : Int) + 1 := IntWalk.i64_in _ (by omega)
            obtain ⟨z, hz⟩ : ∃ z, z = a + 1 + 6 * q := ⟨_, rfl⟩
            have hz6 : a + 1 + 6 * (q + 1) = z + 6 := by omega
            have T2 := HTK.out U.drew hG.below.drew z 2 (by omega) (by omega) (z : Int) 2 rfl rfl
            have T4 := HTK.out U.drew hG.below.drew (z + 2) 4 (by omega) (by omega) ((z : Int) + 2) 4 (by push_cast; rfl) rfl
            have b2 := HLT.out z 2
            have b4 := HLT.out (z + 2) 4
            have xz2 : IntKind.i64.wrap ((z : Int) + 2) = (z : Int) + 2 := IntWalk.i64_in _ (by omega)
            have xz6 : IntKind.i64.wrap ((z : Int) + 6) = (z : Int) + 6 := IntWalk.i64_in _ (by omega)
            have hcs := clms_succ l (a + 1) q
            have hclen := clms_len l (a + 1) q
            rw [← hz] at hcs ⊢
            have HE : Hid (∀ (W2 : World) (ad2 : Option Addr) (cap2 : Nat), GS w l { m with claims := (m.claims ++ Gu.clms l (a + 1) q) ++ [(((takF l z 2 : Nat) : Int), takF l (z + 2) 4)] } ad2 cap2 W2 →
                ∃ (q' : Nat) (ad' : Option Addr) (cap' : Nat), q' ≤ v ∧ (Value.int .i64 ((z : Int) + 6)) = .int .i64 ((a + 1 + 6 * q' : Nat) : Int) ∧ (Value.int .i64 ((q : Int) + 1)) = .int .i64 (q' : Int) ∧ GS w l { m with claims := m.claims ++ Gu.clms l (a + 1) q' } ad' cap' W2) := fun W2 ad2 cap2 h =>
              ⟨q + 1, ad2, cap2, hqv, by rw [hz6]; push_cast; rfl, by push_cast; rfl, by rw [hcs, ← List.append_assoc]; exact h⟩
            have hGd : GS w l { m with claims := m.claims ++ Gu.clms l (a + 1) q } ad' cap' U.drew := ⟨hG.below.drew, hG.rb, hG.pb, hG.mb, hG.row⟩
            obtain ⟨⟨c0, c1, c2, c3, c4, c5, c6, c7, c8⟩, fz⟩ := hGd.cells
            have HGD := Lib.hid hGd
            obtain ⟨M, hM⟩ : ∃ M, M = (m.claims ++ Gu.clms l (a + 1) q).length := ⟨_, rfl⟩
            have hMb : M ≤ 3000 := by rw [hM, List.length_append, hclen]; omega
            have HAP : Hid (∀ (W2 : World) (ad2 : Option Addr) (cap2 : Nat), (U.drew.alloc (.cells #[.int .i64 (takF l z 2 : Nat), .int .u32 (takF l (z + 2) 4 : Nat)] 50)).grownBy W2 (Value.slice ad' M cap').ownBlock → W2.ownsRow (w.heap.size + 3) 50 2 (.slice ad2 (M + 1) cap2) (M + 1) (csC (m.claims ++ Gu.clms l (a + 1) q) ++ [.int .i64 (takF l z 2 : Nat), .int .u32 (takF l (z + 2) 4 : Nat)]) →
                (W2.cell? ⟨w.heap.size + 1 + 1, 8, none⟩ = some (.slice ad' M cap') ∧ W2.frozen? ⟨w.heap.size + 1 + 1, 8, none⟩ = false) ∧ ∃ (q' : Nat) (ad' : Option Addr) (cap' : Nat), q' ≤ v ∧ (Value.int .i64 ((z : Int) + 6)) = .int .i64 ((a + 1 + 6 * q' : Nat) : Int) ∧ (Value.int .i64 ((q : Int) + 1)) = .int .i64 (q' : Int) ∧ GS w l { m with claims := m.claims ++ Gu.clms l (a + 1) q' } ad' cap' (W2.setCell ⟨w.heap.size + 1 + 1, 8, none⟩ (.slice ad2 (M + 1) cap2))) := by
              intro W2 ad2 cap2 hg hr
              rw [hM] at hg hr ⊢
              have h5 := HGD.out.app (c := (((takF l z 2 : Nat) : Int), takF l (z + 2) 4)) hg hr
              exact ⟨h5.1, HE.out _ _ _ h5.2⟩
            have HV : Hid (U.drew.ownsRow (w.heap.size + 3) 50 2 (.slice ad' M cap') M (csC (m.claims ++ Gu.clms l (a + 1) q))) := by show World.ownsRow _ _ _ _ _ _ _; rw [hM]; exact HGD.out.row
            have HSZ : Hid (w.heap.size + 3 ≤ U.drew.heap.size) := by have := blk_lt HGD.out.mb; show _ ≤ _; omega
            have c8' : U.drew.cell? ⟨w.heap.size + 1 + 1, 8, none⟩ = some (.slice ad' M cap') := by rw [hM]; exact c8
            obtain ⟨i0, hi, hz0, hz1, hz2⟩ := info_parts Tryd.infoClaim
            have HT2 := Lib.hid T2
            have HT4 := Lib.hid T4
            have HQV := Lib.hid hqv
            clear hG hGd HGD HE hcs hclen hM c0 c1 c2 c3 c4 c5 c6 c7 c8 fz hz hz6 T2 T4 hq hqv hvb hab HX HAB HVB
            generalize takF l z 2 = k2 at *
            generalize takF l (z + 2) 4 = k4 at *
            have xk2 : IntKind.i64.wrap (k2 : Int) = (k2 : Int) := IntWalk.i64_in _ (by omega)
            have xk4 : IntKind.u32.wrap (k4 : Int) = (k4 : Int) := by simp [IntKind.wrap, IntKind.bits, IntKind.signed]; omega
            generalize csC (m.claims ++ Gu.clms l (a + 1) q) = cs at *
            go_wp2_with fail
            have HNe := Lib.hid (World.news_of_block (heap_alloc_new U.drew (.cells #[.int .i64 (k2 : Nat), .int .u32 (k4 : Nat)] 50)))
            have c8a : ∀ o, (U.drew.alloc o).cell? ⟨w.heap.size + 1 + 1, 8, none⟩ = some (.slice ad' M cap') := fun o => ((Kept.refl (fun _ => False) U.drew).alloc o).cell c8' id
            have c8b : ∀ o, (U.alloc o).drew.cell? ⟨w.heap.size + 1 + 1, 8, none⟩ = some (.slice ad' M cap') := c8a
            have c8c : ∀ o, (U.alloc o).cell? ⟨w.heap.size + 1 + 1, 8, none⟩ = some (.slice ad' M cap') := c8a
            refine wp_region_held_drew (S := fun _ => True) (by kernel_rfl) trivial (fun hHeld => ?_)
            clear hHeld
            simp only [List.size_toArray, List.length_cons, List.length_nil, Nat.reduceAdd, Array.replicate_succ, Array.replicate_zero, List.push_toArray, List.nil_append, List.cons_append, List.append_toArray]
            refine take_op (i := 0) (v := ?_) rfl (by kernel_rfl) (by kernel_rfl) (by kernel_rfl) (fun _ _ _ h => h) (Or.inl ⟨by rfl, ?_⟩) trivial ?_
            rotate_left
            · (intro w' hSw; clear hSw; go_simp; (try with_reducible rfl))
            (try simp only [Act.put, List.setIfInBounds_toArray, List.set_cons_zero, List.set_cons_succ])
            refine take_op (i := 2) (v := ?_) rfl (by kernel_rfl) (by kernel_rfl) (by kernel_rfl) (fun _ _ _ h => h) (Or.inl ⟨by rfl, ?_⟩) trivial ?_
            rotate_left
            · (intro w' hSw; clear hSw; go_simp; (try with_reducible rfl))
            (try simp only [Act.put, List.setIfInBounds_toArray, List.set_cons_zero, List.set_cons_succ])
            refine take_op (i := 3) (v := ?_) rfl (by kernel_rfl) (by kernel_rfl) (by kernel_rfl) (fun _ _ _ h => h) (Or.inl ⟨by rfl, ?_⟩) trivial ?_
            rotate_left
            · (intro w' hSw; clear hSw; go_simp; (try with_reducible rfl))
            (try simp only [Act.put, List.setIfInBounds_toArray, List.set_cons_zero, List.set_cons_succ])
            refine take_op (i := 6) (v := ?_) rfl (by kernel_rfl) (by kernel_rfl) (by kernel_rfl) (fun _ _ _ h => h) (Or.inl ⟨by rfl, ?_⟩) trivial ?_
            rotate_left
            · (intro w' hSw; clear hSw; go_simp; (try with_reducible rfl))
            (try simp only [Act.put, List.setIfInBounds_toArray, List.set_cons_zero, List.set_cons_succ])
            refine take_op (i := 7) (v := ?_) rfl (by kernel_rfl) (by kernel_rfl) (by kernel_rfl) (fun _ _ _ h => h) (Or.inl ⟨by rfl, ?_⟩) trivial ?_
            rotate_left
            · (intro w' hSw; clear hSw; go_simp; (try with_reducible rfl))
            (try simp only [Act.put, List.setIfInBounds_toArray, List.set_cons_zero, List.set_cons_succ])
            refine take_op (i := 8) (v := ?_) rfl (by kernel_rfl) (by kernel_rfl) (by kernel_rfl) (fun _ _ _ h => h) (Or.inl ⟨by rfl, ?_⟩) trivial ?_
            rotate_left
            · (intro w' hSw; clear hSw; go_simp; (try with_reducible rfl))
            (try simp only [Act.put, List.setIfInBounds_toArray, List.set_cons_zero, List.set_cons_succ])
            refine wpAnyH_ready (rs := [1, 4]) (by kernel_rfl) (by simp) ?_
            refine (cons_op rfl (fun K hK => ?_) (cons_op rfl (fun K hK => ?_) AllReadyH.nil))
            · go_simp
              refine hK.out _ _ trivial (fun hHeld => ?_)
              clear hK K hHeld
              (try simp only [Act.put, List.setIfInBounds_toArray, List.set_cons_zero, List.set_cons_succ])
              refine wpAnyH_ready (rs := [4]) (by kernel_rfl) (by simp) ?_
              refine (cons_op rfl (fun K hK => ?_) AllReadyH.nil)
              go_simp
              refine HT2.out.mono ?_
              rintro e w' ⟨rfl, hw'⟩
              rw [hw']
              clear hw' w'
              refine hK.out _ _ trivial (fun hHeld => ?_)
              clear hK K hHeld
              (try simp only [Act.put, List.setIfInBounds_toArray, List.set_cons_zero, List.set_cons_succ])
              refine take_op (i := 5) (v := ?_) rfl (by kernel_rfl) (by kernel_rfl) (by kernel_rfl) (fun _ _ _ h => h) (Or.inl ⟨by rfl, ?_⟩) trivial ?_
              rotate_left
              · (intro w' hSw; clear hSw; go_simp; (try with_reducible rfl))
              (try simp only [Act.put, List.setIfInBounds_toArray, List.set_cons_zero, List.set_cons_succ])
              refine wpAnyH_ready (rs := [9]) (by kernel_rfl) (by simp) ?_
              refine (cons_op rfl (fun K hK => ?_) AllReadyH.nil)
              go_simp
              refine HT4.out.mono ?_
              rintro e w' ⟨rfl, hw'⟩
              rw [hw']
              clear hw' w'
              refine hK.out _ _ trivial (fun hHeld => ?_)
              clear hK K hHeld
              (try simp only [Act.put, List.setIfInBounds_toArray, List.set_cons_zero, List.set_cons_succ])
              refine take_op (i := 10) (v := ?_) rfl (by kernel_rfl) (by kernel_rfl) (by kernel_rfl) (fun _ _ _ h => h) (Or.inl ⟨by rfl, ?_⟩) trivial ?_
              rotate_left
              · (intro w' hSw; clear hSw; go_simp; (try with_reducible rfl))
              (try simp only [Act.put, List.setIfInBounds_toArray, List.set_cons_zero, List.set_cons_succ])
              refine take_op (i := 11) (v := ?_) rfl (by kernel_rfl) (by kernel_rfl) (by kernel_rfl) (fun _ _ _ h => h) (Or.inl ⟨by rfl, ?_⟩) trivial ?_
              rotate_left
              · (intro w' hSw; clear hSw; go_simp; (try with_reducible rfl))
              (try simp only [Act.put, List.setIfInBounds_toArray, List.set_cons_zero, List.set_cons_succ])
              refine wpAnyH_ready (rs := [12]) (by kernel_rfl) (by simp) ?_
              refine (cons_op rfl (fun K hK => ?_) AllReadyH.nil)
              go_simp
              refine hK.out _ _ trivial (fun hHeld => ?_)
              clear hK K hHeld
              (try simp only [Act.put, List.setIfInBounds_toArray, List.set_cons_zero, List.set_cons_succ])
              refine wpAnyH_ready (rs := [13]) (by kernel_rfl) (by simp) ?_
              refine (cons_op rfl (fun K hK => ?_) AllReadyH.nil)
              refine step_append_lies _ rfl (.tmp 125) (.tmp 136) 24 rfl (w.heap.size + 3) 50 i0 (.agg #[.int .i64 0, .int .u32 0]) 2 16 Tryd.underlying24 hi hz0 hz1 hz2 rfl (by decide) (.slice ad' M cap') M cs (by simp [Act.eval]) (HV.out.alloc _) ⟨U.drew.heap.size, 0, none⟩ 1 1 [.int .i64 (k2 : Nat), .int .u32 (k4 : Nat)] (by simp [Act.eval]) rfl HNe.out (by intro u hu; simp at hu; rcases hu with rfl | rfl <;> rfl) (by decide) (by unfold maxLen; omega) (by omega) (by have h9 := HSZ.out; show w.heap.size + 3 ≤ (U.alloc _).heap.size; rw [World.size_alloc]; exact Nat.le_succ_of_le h9) (U.drew.heap.size + 1) (by simp) ?_
              intro g2 cap2 w3 ho3 hg3 hat3 _
              obtain ⟨⟨hq1, hq2⟩, hq3⟩ := HAP.out w3 (some ⟨g2, 0, none⟩) cap2 hg3 ho3
              have HZ := Lib.hid hq3
              clear ho3 hg3 hat3 hq3
              refine hK.out _ _ trivial (fun hHeld => ?_)
              clear hK K hHeld
              (try simp only [Act.put, List.setIfInBounds_toArray, List.set_cons_zero, List.set_cons_succ])
              refine take_op (i := 14) (v := ?_) rfl (by kernel_rfl) (by kernel_rfl) (by kernel_rfl) (fun _ _ _ h => h) (Or.inl ⟨by rfl, ?_⟩) trivial ?_
              rotate_left
              · (intro w' hSw; clear hSw; go_simp; (try with_reducible rfl))
              (try simp only [Act.put, List.setIfInBounds_toArray, List.set_cons_zero, List.set_cons_succ])
              refine wpAnyH_ready (rs := [15]) (by kernel_rfl) (by simp) ?_
              refine (cons_op rfl (fun K hK => ?_) AllReadyH.nil)
              go_simp
              refine hK.out _ _ trivial (fun hHeld => ?_)
              clear hK K hHeld
              (try simp only [Act.put, List.setIfInBounds_toArray, List.set_cons_zero, List.set_cons_succ])
              refine wpAnyH_done (by kernel_rfl) ?_ _
              go_wp2
              exact ⟨HZ.out, by simp [intOf]; have := HQV.out; omega⟩
            · go_simp
              refine HT2.out.mono ?_
              rintro e w' ⟨rfl, hw'⟩
              rw [hw']
              clear hw' w'
              refine hK.out _ _ trivial (fun hHeld => ?_)
              clear hK K hHeld
              (try simp only [Act.put, List.setIfInBounds_toArray, List.set_cons_zero, List.set_cons_succ])
              refine take_op (i := 5) (v := ?_) rfl (by kernel_rfl) (by kernel_rfl) (by kernel_rfl) (fun _ _ _ h => h) (Or.inl ⟨by rfl, ?_⟩) trivial ?_
              rotate_left
              · (intro w' hSw; clear hSw; go_simp; (try with_reducible rfl))
              (try simp only [Act.put, List.setIfInBounds_toArray, List.set_cons_zero, List.set_cons_succ])
              refine wpAnyH_ready (rs := [1, 9]) (by kernel_rfl) (by simp) ?_
              refine (cons_op rfl (fun K hK => ?_) (cons_op rfl (fun K hK => ?_) AllReadyH.nil))
              · go_simp
                refine hK.out _ _ trivial (fun hHeld => ?_)
                clear hK K hHeld
                (try simp only [Act.put, List.setIfInBounds_toArray, List.set_cons_zero, List.set_cons_succ])
                refine wpAnyH_ready (rs := [9]) (by kernel_rfl) (by simp) ?_
                refine (cons_op rfl (fun K hK => ?_) AllReadyH.nil)
                go_simp
                refine HT4.out.mono ?_
                rintro e w' ⟨rfl, hw'⟩
                rw [hw']
                clear hw' w'
                refine hK.out _ _ trivial (fun hHeld => ?_)
                clear hK K hHeld
                (try simp only [Act.put, List.setIfInBounds_toArray, List.set_cons_zero, List.set_cons_succ])
                refine take_op (i := 10) (v := ?_) rfl (by kernel_rfl) (by kernel_rfl) (by kernel_rfl) (fun _ _ _ h => h) (Or.inl ⟨by rfl, ?_⟩) trivial ?_
                rotate_left
                · (intro w' hSw; clear hSw; go_simp; (try with_reducible rfl))
                (try simp only [Act.put, List.setIfInBounds_toArray, List.set_cons_zero, List.set_cons_succ])
                refine take_op (i := 11) (v := ?_) rfl (by kernel_rfl) (by kernel_rfl) (by kernel_rfl) (fun _ _ _ h => h) (Or.inl ⟨by rfl, ?_⟩) trivial ?_
                rotate_left
                · (intro w' hSw; clear hSw; go_simp; (try with_reducible rfl))
                (try simp only [Act.put, List.setIfInBounds_toArray, List.set_cons_zero, List.set_cons_succ])
                refine wpAnyH_ready (rs := [12]) (by kernel_rfl) (by simp) ?_
                refine (cons_op rfl (fun K hK => ?_) AllReadyH.nil)
                go_simp
                refine hK.out _ _ trivial (fun hHeld => ?_)
                clear hK K hHeld
                (try simp only [Act.put, List.setIfInBounds_toArray, List.set_cons_zero, List.set_cons_succ])
                refine wpAnyH_ready (rs := [13]) (by kernel_rfl) (by simp) ?_
                refine (cons_op rfl (fun K hK => ?_) AllReadyH.nil)
                refine step_append_lies _ rfl (.tmp 125) (.tmp 136) 24 rfl (w.heap.size + 3) 50 i0 (.agg #[.int .i64 0, .int .u32 0]) 2 16 Tryd.underlying24 hi hz0 hz1 hz2 rfl (by decide) (.slice ad' M cap') M cs (by simp [Act.eval]) (HV.out.alloc _) ⟨U.drew.heap.size, 0, none⟩ 1 1 [.int .i64 (k2 : Nat), .int .u32 (k4 : Nat)] (by simp [Act.eval]) rfl HNe.out (by intro u hu; simp at hu; rcases hu with rfl | rfl <;> rfl) (by decide) (by unfold maxLen; omega) (by omega) (by have h9 := HSZ.out; show w.heap.size + 3 ≤ (U.alloc _).heap.size; rw [World.size_alloc]; exact Nat.le_succ_of_le h9) (U.drew.heap.size + 1) (by simp) ?_
                intro g2 cap2 w3 ho3 hg3 hat3 _
                obtain ⟨⟨hq1, hq2⟩, hq3⟩ := HAP.out w3 (some ⟨g2, 0, none⟩) cap2 hg3 ho3
                have HZ := Lib.hid hq3
                clear ho3 hg3 hat3 hq3
                refine hK.out _ _ trivial (fun hHeld => ?_)
                clear hK K hHeld
                (try simp only [Act.put, List.setIfInBounds_toArray, List.set_cons_zero, List.set_cons_succ])
                refine take_op (i := 14) (v := ?_) rfl (by kernel_rfl) (by kernel_rfl) (by kernel_rfl) (fun _ _ _ h => h) (Or.inl ⟨by rfl, ?_⟩) trivial ?_
                rotate_left
                · (intro w' hSw; clear hSw; go_simp; (try with_reducible rfl))
                (try simp only [Act.put, List.setIfInBounds_toArray, List.set_cons_zero, List.set_cons_succ])
                refine wpAnyH_ready (rs := [15]) (by kernel_rfl) (by simp) ?_
                refine (cons_op rfl (fun K hK => ?_) AllReadyH.nil)
                go_simp
                refine hK.out _ _ trivial (fun hHeld => ?_)
                clear hK K hHeld
                (try simp only [Act.put, List.setIfInBounds_toArray, List.set_cons_zero, List.set_cons_succ])
                refine wpAnyH_done (by kernel_rfl) ?_ _
                go_wp2
                exact ⟨HZ.out, by simp [intOf]; have := HQV.out; omega⟩
              · go_simp
                refine HT4.out.mono ?_
                rintro e w' ⟨rfl, hw'⟩
                rw [hw']
                clear hw' w'
                refine hK.out _ _ trivial (fun hHeld => ?_)
                clear hK K hHeld
                (try simp only [Act.put, List.setIfInBounds_toArray, List.set_cons_zero, List.set_cons_succ])
                refine take_op (i := 10) (v := ?_) rfl (by kernel_rfl) (by kernel_rfl) (by kernel_rfl) (fun _ _ _ h => h) (Or.inl ⟨by rfl, ?_⟩) trivial ?_
                rotate_left
                · (intro w' hSw; clear hSw; go_simp; (try with_reducible rfl))
                (try simp only [Act.put, List.setIfInBounds_toArray, List.set_cons_zero, List.set_cons_succ])
                refine take_op (i := 11) (v := ?_) rfl (by kernel_rfl) (by kernel_rfl) (by kernel_rfl) (fun _ _ _ h => h) (Or.inl ⟨by rfl, ?_⟩) trivial ?_
                rotate_left
                · (intro w' hSw; clear hSw; go_simp; (try with_reducible rfl))
                (try simp only [Act.put, List.setIfInBounds_toArray, List.set_cons_zero, List.set_cons_succ])
                refine wpAnyH_ready (rs := [1, 12]) (by kernel_rfl) (by simp) ?_
                refine (cons_op rfl (fun K hK => ?_) (cons_op rfl (fun K hK => ?_) AllReadyH.nil))
                · go_simp
                  refine hK.out _ _ trivial (fun hHeld => ?_)
                  clear hK K hHeld
                  (try simp only [Act.put, List.setIfInBounds_toArray, List.set_cons_zero, List.set_cons_succ])
                  refine wpAnyH_ready (rs := [12]) (by kernel_rfl) (by simp) ?_
                  refine (cons_op rfl (fun K hK => ?_) AllReadyH.nil)
                  go_simp
                  refine hK.out _ _ trivial (fun hHeld => ?_)
                  clear hK K hHeld
                  (try simp only [Act.put, List.setIfInBounds_toArray, List.set_cons_zero, List.set_cons_succ])
                  refine wpAnyH_ready (rs := [13]) (by kernel_rfl) (by simp) ?_
                  refine (cons_op rfl (fun K hK => ?_) AllReadyH.nil)
                  refine step_append_lies _ rfl (.tmp 125) (.tmp 136) 24 rfl (w.heap.size + 3) 50 i0 (.agg #[.int .i64 0, .int .u32 0]) 2 16 Tryd.underlying24 hi hz0 hz1 hz2 rfl (by decide) (.slice ad' M cap') M cs (by simp [Act.eval]) (HV.out.alloc _) ⟨U.drew.heap.size, 0, none⟩ 1 1 [.int .i64 (k2 : Nat), .int .u32 (k4 : Nat)] (by simp [Act.eval]) rfl HNe.out (by intro u hu; simp at hu; rcases hu with rfl | rfl <;> rfl) (by decide) (by unfold maxLen; omega) (by omega) (by have h9 := HSZ.out; show w.heap.size + 3 ≤ (U.alloc _).heap.size; rw [World.size_alloc]; exact Nat.le_succ_of_le h9) (U.drew.heap.size + 1) (by simp) ?_
                  intro g2 cap2 w3 ho3 hg3 hat3 _
                  obtain ⟨⟨hq1, hq2⟩, hq3⟩ := HAP.out w3 (some ⟨g2, 0, none⟩) cap2 hg3 ho3
                  have HZ := Lib.hid hq3
                  clear ho3 hg3 hat3 hq3
                  refine hK.out _ _ trivial (fun hHeld => ?_)
                  clear hK K hHeld
                  (try simp only [Act.put, List.setIfInBounds_toArray, List.set_cons_zero, List.set_cons_succ])
                  refine take_op (i := 14) (v := ?_) rfl (by kernel_rfl) (by kernel_rfl) (by kernel_rfl) (fun _ _ _ h => h) (Or.inl ⟨by rfl, ?_⟩) trivial ?_
                  rotate_left
                  · (intro w' hSw; clear hSw; go_simp; (try with_reducible rfl))
                  (try simp only [Act.put, List.setIfInBounds_toArray, List.set_cons_zero, List.set_cons_succ])
                  refine wpAnyH_ready (rs := [15]) (by kernel_rfl) (by simp) ?_
                  refine (cons_op rfl (fun K hK => ?_) AllReadyH.nil)
                  go_simp
                  refine hK.out _ _ trivial (fun hHeld => ?_)
                  clear hK K hHeld
                  (try simp only [Act.put, List.setIfInBounds_toArray, List.set_cons_zero, List.set_cons_succ])
                  refine wpAnyH_done (by kernel_rfl) ?_ _
                  go_wp2
                  exact ⟨HZ.out, by simp [intOf]; have := HQV.out; omega⟩
                · go_simp
                  refine hK.out _ _ trivial (fun hHeld => ?_)
                  clear hK K hHeld
                  (try simp only [Act.put, List.setIfInBounds_toArray, List.set_cons_zero, List.set_cons_succ])
                  refine wpAnyH_ready (rs := [1]) (by kernel_rfl) (by simp) ?_
                  refine (cons_op rfl (fun K hK => ?_) AllReadyH.nil)
                  go_simp
                  refine hK.out _ _ trivial (fun hHeld => ?_)
                  clear hK K hHeld
                  (try simp only [Act.put, List.setIfInBounds_toArray, List.set_cons_zero, List.set_cons_succ])
                  refine wpAnyH_ready (rs := [13]) (by kernel_rfl) (by simp) ?_
                  refine (cons_op rfl (fun K hK => ?_) AllReadyH.nil)
                  refine step_append_lies _ rfl (.tmp 125) (.tmp 136) 24 rfl (w.heap.size + 3) 50 i0 (.agg #[.int .i64 0, .int .u32 0]) 2 16 Tryd.underlying24 hi hz0 hz1 hz2 rfl (by decide) (.slice ad' M cap') M cs (by simp [Act.eval]) (HV.out.alloc _) ⟨U.drew.heap.size, 0, none⟩ 1 1 [.int .i64 (k2 : Nat), .int .u32 (k4 : Nat)] (by simp [Act.eval]) rfl HNe.out (by intro u hu; simp at hu; rcases hu with rfl | rfl <;> rfl) (by decide) (by unfold maxLen; omega) (by omega) (by have h9 := HSZ.out; show w.heap.size + 3 ≤ (U.alloc _).heap.size; rw [World.size_alloc]; exact Nat.le_succ_of_le h9) (U.drew.heap.size + 1) (by simp) ?_
                  intro g2 cap2 w3 ho3 hg3 hat3 _
                  obtain ⟨⟨hq1, hq2⟩, hq3⟩ := HAP.out w3 (some ⟨g2, 0, none⟩) cap2 hg3 ho3
                  have HZ := Lib.hid hq3
                  clear ho3 hg3 hat3 hq3
                  refine hK.out _ _ trivial (fun hHeld => ?_)
                  clear hK K hHeld
                  (try simp only [Act.put, List.setIfInBounds_toArray, List.set_cons_zero, List.set_cons_succ])
                  refine take_op (i := 14) (v := ?_) rfl (by kernel_rfl) (by kernel_rfl) (by kernel_rfl) (fun _ _ _ h => h) (Or.inl ⟨by rfl, ?_⟩) trivial ?_
                  rotate_left
                  · (intro w' hSw; clear hSw; go_simp; (try with_reducible rfl))
                  (try simp only [Act.put, List.setIfInBounds_toArray, List.set_cons_zero, List.set_cons_succ])
                  refine wpAnyH_ready (rs := [15]) (by kernel_rfl) (by simp) ?_
                  refine (cons_op rfl (fun K hK => ?_) AllReadyH.nil)
                  go_simp
                  refine hK.out _ _ trivial (fun hHeld => ?_)
                  clear hK K hHeld
                  (try simp only [Act.put, List.setIfInBounds_toArray, List.set_cons_zero, List.set_cons_succ])
                  refine wpAnyH_done (by kernel_rfl) ?_ _
                  go_wp2
                  exact ⟨HZ.out, by simp [intOf]; have := HQV.out; omega⟩
          · obtain rfl : q = v := by omega
            have HY := Lib.hid (HX.out U ad' cap' hG)
            have d1 : decide ((q : Int) < (q : Int)) = false := by simp
            clear hG HX hq hqv hvb hab
            go_wp2
            exact ⟨HY.out, by simp [intOf]; have := HJ.out; omega⟩
    · obtain rfl : j = N := by omega
      have hm : m = Gu.guM l := by have := HFE.out; rw [hfo] at this; exact this
      obtain ⟨⟨c0, c1, c2, c3, c4, c5, c6, c7, c8⟩, fz⟩ := hG.cells
      have HG := Lib.hid hG
      have pb := hG.pb
      have rb := hG.rb
      have d1 : decide ((j : Int) < (j : Int)) = false := by simp
      have HM := Lib.hid hm
      clear hm hfo ha hcl hG hj hjN HI HLET HF1 HFE hN5
      have p15 := pk_cells pb
      have r15 := pk_cells rb
      obtain ⟨⟨pc0, pc1, pc2, pc3, pc4, pc5, pc6, pc7, pc8, pc9, pc10, pc11, pc12, pc13, pc14⟩, pf⟩ := p15
      have pf6 := pf 6
      have pf7 := pf 7
      have pf8 := pf 8
      have pf9 := pf 9
      have pf10 := pf 10
      have pf11 := pf 11
      have pf12 := pf 12
      have pf13 := pf 13
      have pf14 := pf 14
      clear r15 pf
      go_upto_region 41 with (fail)
      obtain ⟨W9, hW9⟩ : ∃ W9, (((((((((V.setCell ⟨w.heap.size + 1, 6, none⟩ (.int .i64 m.kind)).setCell ⟨w.heap.size + 1, 7, none⟩ (.int .i64 m.cell)).setCell ⟨w.heap.size + 1, 8, none⟩ (.int .u32 (m.gen : Nat))).setCell ⟨w.heap.size + 1, 9, none⟩ (.int .u64 (m.stamp : Nat))).setCell ⟨w.heap.size + 1, 10, none⟩ (.int .i64 m.prio)).setCell ⟨w.heap.size + 1, 11, none⟩ (.int .i64 m.hops)).setCell ⟨w.heap.size + 1, 12, none⟩ (.int .i64 m.origin)).setCell ⟨w.heap.size + 1, 13, none⟩ (.int .i64 m.other)).setCell ⟨w.heap.size + 1, 14, none⟩ (.slice ad m.claims.length cap)) = W9 := ⟨_, rfl⟩
      rw [hW9]
      have hpw := pk_write pb (.int .i64 m.kind) (.int .i64 m.cell) (.int .u32 (m.gen : Nat)) (.int .u64 (m.stamp : Nat)) (.int .i64 m.prio) (.int .i64 m.hops) (.int .i64 m.origin) (.int .i64 m.other) (.slice ad m.claims.length cap)
      rw [hW9] at hpw
      obtain ⟨b9, k9⟩ := hpw
      have r9 := (k9.block _ (blk_lt rb) (by omega)).trans rb
      have hbel : Below w.heap.size w W9 := HG.out.below.trans (k9.below (fun k h => by omega) HG.out.below.size)
      have hrow : W9.ownsRow (w.heap.size + 3) 50 2 (.slice ad m.claims.length cap) m.claims.length (csC m.claims) := k9.row HG.out.row (fun k e => by have := (HG.out.row.lt k e).1; omega)
      clear hW9 pb rb pc0 pc1 pc2 pc3 pc4 pc5 pc6 pc7 pc8 pc9 pc10 pc11 pc12 pc13 pc14 pf6 pf7 pf8 pf9 pf10 pf11 pf12 pf13 pf14 c0 c1 c2 c3 c4 c5 c6 c7 c8 fz d1 k9 HG
      obtain ⟨⟨pc0, pc1, pc2, pc3, pc4, pc5, pc6, pc7, pc8, pc9, pc10, pc11, pc12, pc13, pc14⟩, _⟩ := pk_cells b9
      obtain ⟨⟨rc0, rc1, rc2, rc3, rc4, rc5, rc6, rc7, rc8, rc9, rc10, rc11, rc12, rc13, rc14⟩, rf⟩ := pk_cells r9
      have HFIN := Lib.hid (HQ.out m ad cap)
      have HB := Lib.hid hbel
      have HROW := Lib.hid hrow
      clear hbel hrow b9 HQ
      generalize pkt0 l = pk at *
      obtain ⟨pa, pb_, pc_, pd, pe, pg, pm⟩ := pk
      simp only at pc0 pc1 pc2 pc3 pc4 pc5 HFIN
      have hpa := Lib.hid (pk_all r9 (.int .i64 pa) (.int .i64 pb_) (.int .u32 (pc_ : Nat)) (.int .u32 (pd : Nat)) (.int .u32 (pe : Nat)) (.int .u32 (pg : Nat)) (.int .i64 m.kind) (.int .i64 m.cell) (.int .u32 (m.gen : Nat)) (.int .u64 (m.stamp : Nat)) (.int .i64 m.prio) (.int .i64 m.hops) (.int .i64 m.origin) (.int .i64 m.other) (.slice ad m.claims.length cap))
      clear r9
      go_wp2
      obtain ⟨WF, hWF⟩ : ∃ WF, (((((((((((((((W9.setCell ⟨w.heap.size, 0, none⟩ (.int .i64 pa)).setCell ⟨w.heap.size, 1, none⟩ (.int .i64 pb_)).setCell ⟨w.heap.size, 2, none⟩ (.int .u32 (pc_ : Nat))).setCell ⟨w.heap.size, 3, none⟩ (.int .u32 (pd : Nat))).setCell ⟨w.heap.size, 4, none⟩ (.int .u32 (pe : Nat))).setCell ⟨w.heap.size, 5, none⟩ (.int .u32 (pg : Nat))).setCell ⟨w.heap.size, 6, none⟩ (.int .i64 m.kind)).setCell ⟨w.heap.size, 7, none⟩ (.int .i64 m.cell)).setCell ⟨w.heap.size, 8, none⟩ (.int .u32 (m.gen : Nat))).setCell ⟨w.heap.size, 9, none⟩ (.int .u64 (m.stamp : Nat))).setCell ⟨w.heap.size, 10, none⟩ (.int .i64 m.prio)).setCell ⟨w.heap.size, 11, none⟩ (.int .i64 m.hops)).setCell ⟨w.heap.size, 12, none⟩ (.int .i64 m.origin)).setCell ⟨w.heap.size, 13, none⟩ (.int .i64 m.other)).setCell ⟨w.heap.size, 14, none⟩ (.slice ad m.claims.length cap)) = WF := ⟨_, rfl⟩
      have hpa2 := hpa.out
      rw [hWF] at hpa2 ⊢
      clear hWF hpa rc0 rc1 rc2 rc3 rc4 rc5 rc6 rc7 rc8 rc9 rc10 rc11 rc12 rc13 rc14 rf pc0 pc1 pc2 pc3 pc4 pc5 pc6 pc7 pc8 pc9 pc10 pc11 pc12 pc13 pc14
      obtain ⟨bF, kF⟩ := hpa2
      obtain ⟨⟨s0, s1, s2, s3, s4, s5, s6, s7, s8, s9, s10, s11, s12, s13, s14⟩, _⟩ := pk_cells bF
      have HFF := Lib.hid (HFIN.out WF HM.out (HB.out.trans (kF.below (fun k h => by omega) HB.out.size)) (kF.row HROW.out (fun k e => by have := (HROW.out.lt k e).1; omega)))
      refine bodyPost_ret (v := .agg #[.int .i64 pa, .int .i64 pb_, .int .u32 (pc_ : Nat), .int .u32 (pd : Nat), .int .u32 (pe : Nat), .int .u32 (pg : Nat), .int .i64 m.kind, .int .i64 m.cell, .int .u32 (m.gen : Nat), .int .u64 (m.stamp : Nat), .int .i64 m.prio, .int .i64 m.hops, .int .i64 m.origin, .int .i64 m.other, .slice ad m.claims.length cap]) (by simp only [results, Tryd.results29]; simp [go_sem, s0, s1, s2, s3, s4, s5, s6, s7, s8, s9, s10, s11, s12, s13, s14]) rfl HFF.out
end Go.Proofs.YtmfbokaaoffdnaaDoor
