/- Joined texts: Cell, RoundL. -/
import Derived.Test.YtekhlaodlagbdaaGreatDoorRangeW
import Derived.Scope

/-
  findEdges: one cell.
-/
namespace Go.Proofs.YtekhlaodlagbdaaGreatDoor
set_option maxRecDepth 100000
set_option linter.unusedSimpArgs false
open Go.RowKit
attribute [local go_sem] Oper.semAt_some

def cellNode : Code → Option Code
  | .seq a b => (cellNode a).orElse fun _ => cellNode b
  | .block j c => if j = 1 then some (.block j c) else cellNode c
  | .loop c => cellNode c
  | _ => none

theorem Mem.fewer {B gn gb N : Nat} {av av' : List Nat} {L : Nat → List Nat} {T : Nat → Value} {W : World} (h : Mem B gn gb N av L T W) (hs : ∀ q ∈ av', q ∈ av) (h1 : gn ∈ av') (h2 : gb ∈ av') : Mem B gn gb N av' L T W :=
  { h with far := fun q hq => h.far q (hs q hq), lt := fun q hq => h.lt q (hs q hq), hgn := h1, hgb := h2 }

theorem Inv.fewer {B gn gb N b i : Nat} {av av' : List Nat} {A A' : Addr → Value → Prop} {c : UInt8} {ms : List UInt8} {L : Nat → List Nat} {ed : Nat} {pre : List (Nat × Nat)} {W : World}
    (h : Inv B gn gb N b i av A c ms L ed pre W) (hs : ∀ q ∈ av', q ∈ av) (h1 : gn ∈ av') (h2 : gb ∈ av') (hA : ∀ p v, A' p v → A p v) : Inv B gn gb N b i av' A' c ms L ed pre W := by
  obtain ⟨T, hT⟩ := h.mem
  exact ⟨⟨T, hT.fewer hs h1 h2⟩, fun p v hp => h.rd p v (hA p v hp), h.cnt, h.cntf, h.size⟩

set_option maxHeartbeats 4000000 in
theorem onecell_any {n : Nat} (hn : 3 ≤ n) {Q : Exit → Act → World → Prop} (code : Code) (hcode : cellNode ((Tryz.f74).body.getD .skip) = some code)
    (x0 x2 x3 x4 x5 x6 x7 x8 x9 x10 x11 x12 x13 x14 x15 x16 x17 x18 x19 x20 x21 x22 x23 x24 x25 x26 x30 x31 x32 x33 x34 x35 x36 x37 x38 x39 x40 x41 x42 x43 x44 x45 x46 x47 x48 x49 x50 x51 x52 x53 x54 x55 x56 x57 x58 x59 x60 x61 x62 x63 x64 x65 x66 x67 x68 x69 x70 x71 x72 x73 x74 x75 x76 x77 x78 x79 x80 x81 x82 x83 x84 x85 x86 x87 x88 x89 x90 x91 x92 x93 x94 : Value) (ds : List Deferred) (p1 b g cap gn gb N R C i ed B : Nat) (ms : List UInt8) (av : List Nat) (A : Addr → Value → Prop) (L : Nat → List Nat) (w : World)
    (hC : 1 ≤ C) (hC2 : C ≤ 32) (hR : R ≤ 32) (hi : i < N) (hN : R * C = N) (hms : ms.length = N) (hw : Ways w)
    (hb0 : A ⟨b, 0, none⟩ (.int .i64 (R : Int))) (hb1 : A ⟨b, 1, none⟩ (.int .i64 (C : Int))) (hb2 : A ⟨b, 2, none⟩ (.slice (some ⟨g, 0, none⟩) N cap)) (hb6 : A ⟨b, 6, none⟩ (.slice (some ⟨gn, 0, none⟩) N N)) (hb7 : A ⟨b, 7, none⟩ (.slice (some ⟨gb, 0, none⟩) N N))
    (hp1 : A ⟨p1, 0, none⟩ (.pointer (some ⟨b, 0, none⟩)))
    (hmk : ∀ u, u < N → A ⟨g, u, none⟩ (.int .u8 ((ms.getD u 0).toNat : Int)))
    (hsafe : ∀ p v, A p v → (∃ j, j ≠ 8 ∧ p = ⟨b, j, none⟩) ∨ (p.block ∈ av ∧ p.block ≠ gn ∧ p.block ≠ gb ∧ p.block ≠ b)) (hbav : b ∈ av)
    (h1av : p1 ∈ av) (hd1 : gn ≠ p1) (hdb : gn ≠ b) (he1 : gb ≠ p1) (heb : gb ≠ b)
    (hlen : ∀ pre : List (Nat × Nat), pre.length ≤ 4 → ∀ j, (runL N i (ms.getD i 0) ms L pre j).length ≤ 100000) (hed : ed ≤ 100000)
    (h0 : Inv B gn gb N b i av A (ms.getD i 0) ms L ed [] w)
    (hdone : ∀ (y2 y3 y4 y5 y6 y7 y8 y9 y10 y11 y12 y13 y14 y15 y16 y17 y18 y19 y20 y21 y22 y23 y24 y25 y26 y30 y31 y32 y33 y34 y35 y36 y37 y38 y39 y40 y41 y42 y43 y44 y45 y46 y47 y48 y49 y50 y51 y52 y53 y54 y55 y56 y57 y58 y59 y60 y61 y62 y63 y64 y65 y66 y67 y68 y69 y70 y71 y72 y73 y74 y75 y76 y77 y78 y79 y80 y81 y82 y83 y84 y85 y86 y87 y88 y89 y90 y91 y92 y93 y94 : Value) (D : Nat) (W : World), w.heap.size ≤ D → D < W.heap.size → Inv B gn gb N b i av A (ms.getD i 0) ms L ed (sidesK R C i 4) W → Old gn gb b av w W → W.heap[D]? = some (.deferred (some [])) → Q .normal { tmps := #[x0, .pointer (some ⟨p1, 0, none⟩), y2, y3, y4, y5, y6, y7, y8, y9, y10, y11, y12, y13, y14, y15, y16, y17, y18, y19, y20, y21, y22, y23, y24, y25, y26, .slice (some ⟨g, 0, none⟩) N cap, .int .i64 (N : Int), .int .i64 (i : Int), y30, y31, y32, y33, y34, y35, y36, y37, y38, y39, y40, y41, y42, y43, y44, y45, y46, y47, y48, y49, y50, y51, y52, y53, y54, y55, y56, y57, y58, y59, y60, y61, y62, y63, y64, y65, y66, y67, y68, y69, y70, y71, y72, y73, y74, y75, y76, y77, y78, y79, y80, y81, y82, y83, y84, y85, y86, y87, y88, y89, y90, y91, y92, y93, y94], defers := { target := .collected D, args := #[] } :: ds } W) :
    code.wpIn Fence.wide n Tryz.prog Q { tmps := #[x0, .pointer (some ⟨p1, 0, none⟩), x2, x3, x4, x5, x6, x7, x8, x9, x10, x11, x12, x13, x14, x15, x16, x17, x18, x19, x20, x21, x22, x23, x24, x25, x26, .slice (some ⟨g, 0, none⟩) N cap, .int .i64 (N : Int), .int .i64 (i : Int), x30, x31, x32, x33, x34, x35, x36, x37, x38, x39, x40, x41, x42, x43, x44, x45, x46, x47, x48, x49, x50, x51, x52, x53, x54, x55, x56, x57, x58, x59, x60, x61, x62, x63, x64, x65, x66, x67, x68, x69, x70, x71, x72, x73, x74, x75, x76, x77, x78, x79, x80, x81, x82, x83, x84, x85, x86, x87, x88, x89, x90, x91, x92, x93, x94], defers := ds } w := by
  simp only [Tryz.f74, Option.getD_some, cellNode, Nat.reduceEqDiff, Nat.zero_ne_one, if_false, if_true, Option.orElse_none, Option.orElse_some, Option.some.injEq, reduceCtorEq] at hcode
  subst hcode
  have c1 := h0.rd _ _ hp1
  have cm := h0.rd _ _ (hmk i hi)
  have hgn : gn < w.heap.size := by obtain ⟨T, hT⟩ := h0.mem; exact hT.lt _ hT.hgn
  have hgb : gb < w.heap.size := by obtain ⟨T, hT⟩ := h0.mem; exact hT.lt _ hT.hgb
  have hgnav : gn ∈ av := by obtain ⟨T, hT⟩ := h0.mem; exact hT.hgn
  have hgbav : gb ∈ av := by obtain ⟨T, hT⟩ := h0.mem; exact hT.hgb
  have hbs : b < w.heap.size := by obtain ⟨T, hT⟩ := h0.mem; exact hT.lt _ hbav
  have hp1s := World.block_lt_of_cell? w ⟨p1, 0, none⟩ c1
  have hiN : (i : Int) < (N : Int) := by omega
  have hi0 : (0 : Int) ≤ (i : Int) := by omega
  obtain ⟨mk, hmke⟩ : ∃ mk : Int, Hid (mk = ((ms.getD i 0).toNat : Int)) := ⟨_, rfl⟩
  rw [← hmke.out] at cm
  gi_wp2
  have hB1 : Below w.heap.size w ((w.alloc (.cells #[.int .i64 (i : Int)] 3)).alloc (.cells #[.int .u8 mk] 5)) := ((Below.refl _ w).alloc (Nat.le_refl _) _).alloc (by simp) _
  have d1 := (hB1.cell (World.block_lt_of_cell? w ⟨p1, 0, none⟩ c1)).trans c1
  have d3 : ((w.alloc (.cells #[.int .i64 (i : Int)] 3)).alloc (.cells #[.int .u8 mk] 5)).cell? ⟨w.heap.size + 1, 0, none⟩ = some (.int .u8 mk) := by
    have := World.alloc_heap_new (w.alloc (.cells #[.int .i64 (i : Int)] 3)) (.cells #[.int .u8 mk] 5)
    rw [World.size_alloc] at this
    rw [blk_cell this]; rfl
  have d2 : ((w.alloc (.cells #[.int .i64 (i : Int)] 3)).alloc (.cells #[.int .u8 mk] 5)).cell? ⟨w.heap.size, 0, none⟩ = some (.int .i64 (i : Int)) := by
    have h := World.alloc_heap_new w (.cells #[.int .i64 (i : Int)] 3)
    rw [World.cell?_alloc_some _ _ _ (by rw [blk_cell h]; rfl), blk_cell h]; rfl
  generalize hW5 : (w.alloc (.cells #[.int .i64 (i : Int)] 3)).alloc (.cells #[.int .u8 mk] 5) = W5 at d1 d2 d3 hB1 ⊢
  refine wpIn_wide.2 (wp_scope_straight ((wpIn_wide (n := n)).1 (wpIn_seq (wpIn_label ?_))))
  gi_wp2
  refine ⟨trivial, fun _ => by omega, (callsIn_wide.2 (sides_any b i _)).mono ?_⟩
  rintro e w1 ⟨rfl, rfl⟩
  have hB2 : Below W5.heap.size W5 ((W5.alloc (.cells #[.pointer (some ⟨b, 0, none⟩)] 23)).alloc (.cells #[.int .i64 (i : Int)] 3)) := ((Below.refl _ W5).alloc (Nat.le_refl _) _).alloc (by simp) _
  have f2 : ((W5.alloc (.cells #[.pointer (some ⟨b, 0, none⟩)] 23)).alloc (.cells #[.int .i64 (i : Int)] 3)).cell? ⟨W5.heap.size + 1, 0, none⟩ = some (.int .i64 (i : Int)) := by
    have := World.alloc_heap_new (W5.alloc (.cells #[.pointer (some ⟨b, 0, none⟩)] 23)) (.cells #[.int .i64 (i : Int)] 3)
    rw [World.size_alloc] at this
    rw [blk_cell this]; rfl
  have f1 : ((W5.alloc (.cells #[.pointer (some ⟨b, 0, none⟩)] 23)).alloc (.cells #[.int .i64 (i : Int)] 3)).cell? ⟨W5.heap.size, 0, none⟩ = some (.pointer (some ⟨b, 0, none⟩)) := by
    have h := World.alloc_heap_new W5 (.cells #[.pointer (some ⟨b, 0, none⟩)] 23)
    rw [World.cell?_alloc_some _ _ _ (by rw [blk_cell h]; rfl), blk_cell h]; rfl
  generalize hW6 : (W5.alloc (.cells #[.pointer (some ⟨b, 0, none⟩)] 23)).alloc (.cells #[.int .i64 (i : Int)] 3) = W6 at f1 f2 hB2 ⊢
  have hg5 : w.grownBy W5 none := by
    rw [← hW5]
    exact ⟨rfl, rfl, rfl, by simp; omega, fun k hk _ => (Below.heap_alloc _ _ k (by simp; omega)).trans (Below.heap_alloc _ _ k hk)⟩
  have hg6 : W5.grownBy W6 none := by
    rw [← hW6]
    exact ⟨rfl, rfl, rfl, by simp; omega, fun k hk _ => (Below.heap_alloc _ _ k (by simp; omega)).trans (Below.heap_alloc _ _ k hk)⟩
  have s5h : Hid (W5.heap.size = w.heap.size + 2) := by show W5.heap.size = _; rw [← hW5]; simp
  have s6h : Hid (W6.heap.size = W5.heap.size + 2) := by show W6.heap.size = _; rw [← hW6]; simp
  have hold6 : Old gn gb b av w W6 := ((Old.refl gn gb b av w).others hg5 (by intro r e; cases e)).others hg6 (by intro r e; cases e)
  have h6 : Inv B gn gb N b i av A (ms.getD i 0) ms L ed [] W6 := (h0.others hg5 (by intro r e; cases e)).others hg6 (by intro r e; cases e)
  have hw6 : Ways W6 := fun j u hj => hg6.cell (hg5.cell (hw j u hj) (by simp)) (by simp)
  have e1 := hg6.cell d2 (by simp)
  have e3 := hg6.cell d3 (by simp)
  have hne : ∀ q ∈ av, q < w.heap.size := by obtain ⟨T, hT⟩ := h0.mem; exact hT.lt
  clear hW5 hW6
  gi_wp2
  have s5 := s5h.out
  have s6 := s6h.out
  have hInv : Inv B gn gb N b i ((W5.heap.size + 1) :: W5.heap.size :: (w.heap.size + 1) :: w.heap.size :: av)
      (fun p v => A p v ∨ (p = ⟨w.heap.size, 0, none⟩ ∧ v = .int .i64 (i : Int)) ∨ (p = ⟨w.heap.size + 1, 0, none⟩ ∧ v = .int .u8 mk) ∨ (p = ⟨W5.heap.size + 1, 0, none⟩ ∧ v = .int .i64 (i : Int)) ∨ (p = ⟨W5.heap.size, 0, none⟩ ∧ v = .pointer (some ⟨b, 0, none⟩)))
      (ms.getD i 0) ms L ed [] W6 := by
    obtain ⟨T, hT⟩ := h0.mem
    refine ⟨⟨T, ?_⟩, ?_, h6.cnt, h6.cntf, h6.size⟩
    · have m1 := (hT.avoid hg5 w.heap.size (Nat.le_refl _) (by omega))
      have m2 : Mem B gn gb N ((w.heap.size + 1) :: w.heap.size :: av) (runL N i (ms.getD i 0) ms L []) T W5 := by
        refine { m1 with far := ?_, lt := ?_, hgn := List.mem_cons_of_mem _ m1.hgn, hgb := List.mem_cons_of_mem _ m1.hgb }
        · intro p hp j hj
          rcases List.mem_cons.1 hp with rfl | hp
          · intro e
            have := ((hT.own j hj).lt _ e.symm).2
            omega
          · exact m1.far p hp j hj
        · intro p hp
          rcases List.mem_cons.1 hp with rfl | hp
          · omega
          · exact m1.lt p hp
      have m3 := (m2.avoid hg6 W5.heap.size (Nat.le_refl _) (by omega))
      refine { m3 with far := ?_, lt := ?_, hgn := List.mem_cons_of_mem _ m3.hgn, hgb := List.mem_cons_of_mem _ m3.hgb }
      · intro p hp j hj
        rcases List.mem_cons.1 hp with rfl | hp
        · intro e
          have := ((hT.own j hj).lt _ e.symm).2
          omega
        · exact m3.far p hp j hj
      · intro p hp
        rcases List.mem_cons.1 hp with rfl | hp
        · omega
        · exact m3.lt p hp
    · rintro p v (hA | ⟨rfl, rfl⟩ | ⟨rfl, rfl⟩ | ⟨rfl, rfl⟩ | ⟨rfl, rfl⟩)
      · exact h6.rd p v hA
      · exact e1
      · exact e3
      · exact f2
      · exact f1
  refine range_any hn _ (by kernel_rfl) _ _ _ _ _ _ _ _ _ _ _ _ _ _ _ _ _ _ _ _ _ _ _ _ _ _ _ _ _ _ _ _ _ _ _ _ _ _ _ _ _ _ _ _ _ _ _ _ _ _ _ _ _ _ _ _ _ _ _ _ _ _ _ _ _ _ _ _ _ _ _ _ _ _ _ _ _ _ _ _ _ _ _ _ _ _ _ _ _ _ _ ds p1 w.heap.size (w.heap.size + 1) (W5.heap.size + 1) W5.heap.size b g cap gn gb N R C i ed B (ms.getD i 0) ms ((W5.heap.size + 1) :: W5.heap.size :: (w.heap.size + 1) :: w.heap.size :: av) _ L W6 hC hC2 hR (by omega) hN hms hw6
    (.inr (.inr (.inr (.inl ⟨rfl, rfl⟩)))) (.inr (.inr (.inr (.inr ⟨rfl, rfl⟩)))) (.inl hb0) (.inl hb1) (.inl hb2) (.inl hb6) (.inl hb7) (.inl hp1) (.inr (.inl ⟨rfl, rfl⟩)) (.inr (.inr (.inl ⟨rfl, by rw [hmke.out]⟩))) (fun u hu => .inl (hmk u hu)) ?_ (by simp [hbav]) (by simp [h1av]) (by simp) hd1 (by omega) hdb he1 (by omega) heb hlen hed hInv ?_
  · rintro p v (hA | ⟨rfl, rfl⟩ | ⟨rfl, rfl⟩ | ⟨rfl, rfl⟩ | ⟨rfl, rfl⟩)
    · rcases hsafe p v hA with h | ⟨h1, h2⟩
      · exact .inl h
      · exact .inr ⟨by simp [h1], h2⟩
    all_goals exact .inr ⟨by simp, by simp; omega, by simp; omega, by simp; omega⟩
  · intro D W hD hI hO hDW
    refine hdone _ _ _ _ _ _ _ _ _ _ _ _ _ _ _ _ _ _ _ _ _ _ _ _ _ _ _ _ _ _ _ _ _ _ _ _ _ _ _ _ _ _ _ _ _ _ _ _ _ _ _ _ _ _ _ _ _ _ _ _ _ _ _ _ _ _ _ _ _ _ _ _ _ _ _ _ _ _ _ _ _ _ _ _ _ _ _ _ _ _ D W (by omega) (blk_lt hDW) (hI.fewer (fun q hq => by simp [hq]) hgnav hgbav (fun p v hA => .inl hA)) (hold6.trans (hO.fewer (fun q hq => by simp [hq]))) hDW
end Go.Proofs.YtekhlaodlagbdaaGreatDoor

/-
  findEdges: one round of the outer loop.
-/
namespace Go.Proofs.YtekhlaodlagbdaaGreatDoor
set_option maxRecDepth 100000
set_option linter.unusedSimpArgs false
open Go.RowKit
attribute [local go_sem] Oper.semAt_some

def loopNode : Code → Option Code
  | .seq a b => (loopNode a).orElse fun _ => loopNode b
  | .block _ c => loopNode c
  | .loop c => some c
  | _ => none

/-- What a walk leaves as it is. -/
structure Stop (p : Prop) : Prop where
  out : p
/-- The walk stops at a block. -/
theorem stop1 {F : Fence} {j : Nat} {n : Nat} {P : Program} {Q : Exit → Act → World → Prop} {a : Act} {w : World} {c : Code} (h : Stop ((Code.block j c).wpIn F n P Q a w)) : (Code.block j c).wpIn F n P Q a w := h.out

set_option maxHeartbeats 4000000 in
theorem round_in {n : Nat} (hn : 3 ≤ n) {Q : Exit → Act → World → Prop} (code : Code) (hcode : loopNode ((Tryz.f74).body.getD .skip) = some code)
    (x0 x2 x3 x4 x5 x6 x7 x8 x9 x10 x11 x12 x13 x14 x15 x16 x17 x18 x19 x20 x21 x22 x23 x24 x25 x26 x30 x31 x32 x33 x34 x35 x36 x37 x38 x39 x40 x41 x42 x43 x44 x45 x46 x47 x48 x49 x50 x51 x52 x53 x54 x55 x56 x57 x58 x59 x60 x61 x62 x63 x64 x65 x66 x67 x68 x69 x70 x71 x72 x73 x74 x75 x76 x77 x78 x79 x80 x81 x82 x83 x84 x85 x86 x87 x88 x89 x90 x91 x92 x93 x94 : Value) (ds : List Deferred) (p1 b g cap gn gb N R C i ed B : Nat) (ms : List UInt8) (av : List Nat) (A : Addr → Value → Prop) (L : Nat → List Nat) (w : World)
    (hC : 1 ≤ C) (hC2 : C ≤ 32) (hR : R ≤ 32) (hi : i < N) (hN : R * C = N) (hms : ms.length = N) (hw : Ways w)
    (hb0 : A ⟨b, 0, none⟩ (.int .i64 (R : Int))) (hb1 : A ⟨b, 1, none⟩ (.int .i64 (C : Int))) (hb2 : A ⟨b, 2, none⟩ (.slice (some ⟨g, 0, none⟩) N cap)) (hb6 : A ⟨b, 6, none⟩ (.slice (some ⟨gn, 0, none⟩) N N)) (hb7 : A ⟨b, 7, none⟩ (.slice (some ⟨gb, 0, none⟩) N N))
    (hp1 : A ⟨p1, 0, none⟩ (.pointer (some ⟨b, 0, none⟩)))
    (hmk : ∀ u, u < N → A ⟨g, u, none⟩ (.int .u8 ((ms.getD u 0).toNat : Int)))
    (hsafe : ∀ p v, A p v → (∃ j, j ≠ 8 ∧ p = ⟨b, j, none⟩) ∨ (p.block ∈ av ∧ p.block ≠ gn ∧ p.block ≠ gb ∧ p.block ≠ b)) (hbav : b ∈ av)
    (h1av : p1 ∈ av) (hd1 : gn ≠ p1) (hdb : gn ≠ b) (he1 : gb ≠ p1) (heb : gb ≠ b)
    (hlen : ∀ pre : List (Nat × Nat), pre.length ≤ 4 → ∀ j, (runL N i (ms.getD i 0) ms L pre j).length ≤ 100000) (hed : ed ≤ 100000)
    (h0 : Inv B gn gb N b i av A (ms.getD i 0) ms L ed [] w)
    (hN1 : N ≤ 1024)
    (hdone : ∀ (y0 y2 y3 y4 y5 y6 y7 y8 y9 y10 y11 y12 y13 y14 y15 y16 y17 y18 y19 y20 y21 y22 y23 y24 y25 y26 y30 y31 y32 y33 y34 y35 y36 y37 y38 y39 y40 y41 y42 y43 y44 y45 y46 y47 y48 y49 y50 y51 y52 y53 y54 y55 y56 y57 y58 y59 y60 y61 y62 y63 y64 y65 y66 y67 y68 y69 y70 y71 y72 y73 y74 y75 y76 y77 y78 y79 y80 y81 y82 y83 y84 y85 y86 y87 y88 y89 y90 y91 y92 y93 y94 : Value) (D : Nat) (W : World), w.heap.size ≤ D → D < W.heap.size → Inv B gn gb N b i av A (ms.getD i 0) ms L ed (sidesK R C i 4) W → Old gn gb b av w W → W.heap[D]? = some (.deferred (some [])) → Q .normal { tmps := #[y0, .pointer (some ⟨p1, 0, none⟩), y2, y3, y4, y5, y6, y7, y8, y9, y10, y11, y12, y13, y14, y15, y16, y17, y18, y19, y20, y21, y22, y23, y24, y25, y26, .slice (some ⟨g, 0, none⟩) N cap, .int .i64 (N : Int), .int .i64 (((i + 1 : Nat)) : Int), y30, y31, y32, y33, y34, y35, y36, y37, y38, y39, y40, y41, y42, y43, y44, y45, y46, y47, y48, y49, y50, y51, y52, y53, y54, y55, y56, y57, y58, y59, y60, y61, y62, y63, y64, y65, y66, y67, y68, y69, y70, y71, y72, y73, y74, y75, y76, y77, y78, y79, y80, y81, y82, y83, y84, y85, y86, y87, y88, y89, y90, y91, y92, y93, y94], defers := { target := .collected D, args := #[] } :: ds } W) :
    code.wpIn Fence.wide n Tryz.prog Q { tmps := #[x0, .pointer (some ⟨p1, 0, none⟩), x2, x3, x4, x5, x6, x7, x8, x9, x10, x11, x12, x13, x14, x15, x16, x17, x18, x19, x20, x21, x22, x23, x24, x25, x26, .slice (some ⟨g, 0, none⟩) N cap, .int .i64 (N : Int), .int .i64 (i : Int), x30, x31, x32, x33, x34, x35, x36, x37, x38, x39, x40, x41, x42, x43, x44, x45, x46, x47, x48, x49, x50, x51, x52, x53, x54, x55, x56, x57, x58, x59, x60, x61, x62, x63, x64, x65, x66, x67, x68, x69, x70, x71, x72, x73, x74, x75, x76, x77, x78, x79, x80, x81, x82, x83, x84, x85, x86, x87, x88, x89, x90, x91, x92, x93, x94], defers := ds } w := by
  simp only [Tryz.f74, Option.getD_some, loopNode, Option.orElse_none, Option.orElse_some, Option.some.injEq, reduceCtorEq] at hcode
  subst hcode
  have hlt : (decide ((i : Int) < (N : Int))) = true := by simp [hi]
  have hwr : IntKind.i64.wrap ((i : Int) + 1) = (((i + 1 : Nat)) : Int) := by
    rw [IntKind.wrap_i64]
    omega
  gi_step
  gi_step
  gi_step
  gi_step
  gi_step
  gi_step
  gi_step
  gi_step
  gi_step
  gi_step
  gi_step
  gi_step
  gi_step
  gi_step
  refine onecell_any hn (Code.block 1 _) (by kernel_rfl) _ _ _ _ _ _ _ _ _ _ _ _ _ _ _ _ _ _ _ _ _ _ _ _ _ _ _ _ _ _ _ _ _ _ _ _ _ _ _ _ _ _ _ _ _ _ _ _ _ _ _ _ _ _ _ _ _ _ _ _ _ _ _ _ _ _ _ _ _ _ _ _ _ _ _ _ _ _ _ _ _ _ _ _ _ _ _ _ _ _ _ ds p1 b g cap gn gb N R C i ed B ms av A L w hC hC2 hR hi hN hms hw hb0 hb1 hb2 hb6 hb7 hp1 hmk hsafe hbav h1av hd1 hdb he1 heb hlen hed h0 ?_
  intro z0 z1 z2 z3 z4 z5 z6 z7 z8 z9 z10 z11 z12 z13 z14 z15 z16 z17 z18 z19 z20 z21 z22 z23 z24 z25 z26 z27 z28 z29 z30 z31 z32 z33 z34 z35 z36 z37 z38 z39 z40 z41 z42 z43 z44 z45 z46 z47 z48 z49 z50 z51 z52 z53 z54 z55 z56 z57 z58 z59 z60 z61 z62 z63 z64 z65 z66 z67 z68 z69 z70 z71 z72 z73 z74 z75 z76 z77 z78 z79 z80 z81 z82 z83 z84 z85 z86 z87 z88 z89 D W' hD hD' hI hO hDW
  have HQ := hdone
  clear hdone h0 hmk hsafe hw
  gi_step
  gi_wp2
  exact HQ _ _ _ _ _ _ _ _ _ _ _ _ _ _ _ _ _ _ _ _ _ _ _ _ _ _ _ _ _ _ _ _ _ _ _ _ _ _ _ _ _ _ _ _ _ _ _ _ _ _ _ _ _ _ _ _ _ _ _ _ _ _ _ _ _ _ _ _ _ _ _ _ _ _ _ _ _ _ _ _ _ _ _ _ _ _ _ _ _ _ _ D W' hD hD' hI hO hDW
end Go.Proofs.YtekhlaodlagbdaaGreatDoor
