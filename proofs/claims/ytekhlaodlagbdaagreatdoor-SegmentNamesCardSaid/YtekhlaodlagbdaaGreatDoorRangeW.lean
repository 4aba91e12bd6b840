/- Joined texts: Stops, RangeW. -/
import Derived.Test.YtekhlaodlagbdaaGreatDoorGo
import Derived.Test.YtekhlaodlagbdaaGreatDoorBodyAll
import Derived.RangeFuncNested

/-
  findEdges: the iterator of the sides as a range over it wants it.
-/
namespace Go.Proofs.YtekhlaodlagbdaaGreatDoor
set_option maxRecDepth 100000
open Go Go.RowKit

theorem sides_stops (n : Nat) (hn : 1 ≤ n) (B1 B2 b : Nat) (R C a : Nat) (hC : 1 ≤ C) (hC2 : C ≤ 32) (hR : R ≤ 32) (ha : a < R * C)
    (w : World) (hw : Ways w) (h1 : w.cell? ⟨B1, 0, none⟩ = some (.int .i64 (a : Int))) (h2 : w.cell? ⟨B2, 0, none⟩ = some (.pointer (some ⟨b, 0, none⟩)))
    (hr : w.cell? ⟨b, 0, none⟩ = some (.int .i64 (R : Int))) (hc : w.cell? ⟨b, 1, none⟩ = some (.int .i64 (C : Int))) :
    SeqStopsK Fence.wide n Tryz.prog 137 #[.pointer (some ⟨B1, 0, none⟩), .pointer (some ⟨B2, 0, none⟩)] (fun x : Side R C a => #[.int .i64 (x.1.1 : Int), wayV x.1.2])
      (KeepsSide b B1 B2) (fun xs => xs.map (·.1) = sidesK R C a 4) (fun _ => True) 4 w := by
  intro l J Jx W hB hJ _ hY h0
  have hk : ∀ (p : Addr) (v : Value), w.cell? p = some v → W.cell? p = some v := fun p v h => (World.cell?_of_block (hB.block _ (World.block_lt_of_cell? w p h))).trans h
  exact sides1_in n hn l B1 B2 b R C a hC hC2 hR ha W (fun j u hj => hk _ _ (hw j u hj)) (hk _ _ h1) (hk _ _ h2) (hk _ _ hr) (hk _ _ hc) J Jx hJ hY h0

theorem keepsSide_putObj (b B1 B2 : Nat) (W : World) (l : Nat) (o o' : Obj) (ho : W.heap[l]? = some o) (hc : o.isCells = false) : KeepsSide b B1 B2 W (W.putObj l o') := by
  intro p v _ hv
  have hne : p.block ≠ l := by
    intro e
    rw [cells_of_cell hv (e ▸ ho)] at hc
    cases hc
  exact (World.cell?_of_block (World.putObj_heap_other hne)).trans hv
end Go.Proofs.YtekhlaodlagbdaaGreatDoor

/-
  findEdges: the range over the sides of one cell.
-/
namespace Go.Proofs.YtekhlaodlagbdaaGreatDoor
set_option maxRecDepth 100000
set_option linter.unusedSimpArgs false
open Go.RowKit
attribute [local go_sem] Oper.semAt_some

def rfNode : Code → Option Code
  | .seq a b => (rfNode a).orElse fun _ => rfNode b
  | .block _ c => rfNode c
  | .loop c => rfNode c
  | .scope c => rfNode c
  | .rangeFunc g p a c => some (.rangeFunc g p a c)
  | _ => none

theorem side_bd {R C a k v : Nat} (h : side R C a k = some v) : v < R * C := by
  unfold side at h
  split at h
  · rename_i hc
    obtain ⟨h1, h2, h3, h4⟩ := hc
    cases h
    generalize ((a / C : Nat) : Int) + dnK k = r at *
    generalize ((a % C : Nat) : Int) + rtK k = q at *
    have h5 : r * (C : Int) ≤ ((R : Int) - 1) * (C : Int) := Int.mul_le_mul_of_nonneg_right (by omega) (by omega)
    have h6 : 0 ≤ r * (C : Int) := Int.mul_nonneg h1 (by omega)
    have h7 : ((R * C : Nat) : Int) = (R : Int) * (C : Int) := by simp
    rw [Int.sub_mul, Int.one_mul] at h5
    generalize r * (C : Int) = z at *
    generalize (R : Int) * (C : Int) = y at *
    generalize R * C = t at *
    omega
  · cases h

/-- What is read all along: each of these cells holds its value. -/
def Rd (A : Addr → Value → Prop) (W : World) : Prop := ∀ p v, A p v → W.cell? p = some v
theorem Rd.others {A : Addr → Value → Prop} {W W' : World} {row : Option Nat} (h : Rd A W) (hg : W.grownBy W' row) (hr : ∀ r, row = some r → ∃ o : Obj, W.heap[r]? = some o ∧ o.isCells = false) : Rd A W' := by
  intro p v hA
  refine hg.cell (h p v hA) fun e => ?_
  obtain ⟨o, ho, hc⟩ := hr _ e.symm
  rw [cells_of_cell (h p v hA) ho] at hc
  cases hc
theorem Rd.grown {A : Addr → Value → Prop} {W W' : World} (h : Rd A W) (hg : W.grownBy W' none) : Rd A W' := fun p v hA => hg.cell (h p v hA) (by simp)

/-- May the side x be gone to, from a cell of mark c? -/
def goes (c : UInt8) (ms : List UInt8) (x : Nat × Nat) : Bool := leavesB x.2 c && entersB x.2 (ms.getD x.1 0)
/-- The tables behind some sides of cell i. -/
def runL (N i : Nat) (c : UInt8) (ms : List UInt8) : (Nat → List Nat) → List (Nat × Nat) → Nat → List Nat
  | L, [] => L
  | L, x :: xs => runL N i c ms (if goes c ms x then push (push L i x.1) (N + x.1) i else L) xs
theorem runL_snoc (N i : Nat) (c : UInt8) (ms : List UInt8) (x : Nat × Nat) : ∀ (xs : List (Nat × Nat)) (L : Nat → List Nat), runL N i c ms L (xs ++ [x]) = if goes c ms x then push (push (runL N i c ms L xs) i x.1) (N + x.1) i else runL N i c ms L xs
  | [], _ => rfl
  | y :: ys, L => by simp only [List.cons_append, runL]; exact runL_snoc N i c ms x ys _

structure Inv (B gn gb N b i : Nat) (av : List Nat) (A : Addr → Value → Prop) (c : UInt8) (ms : List UInt8) (L : Nat → List Nat) (ed : Nat) (pre : List (Nat × Nat)) (W : World) : Prop where
  mem : ∃ T, Mem B gn gb N av (runL N i c ms L pre) T W
  rd : Rd A W
  cnt : W.cell? ⟨b, 8, none⟩ = some (.int .i64 ((ed + (pre.filter (goes c ms)).length : Nat) : Int))
  cntf : ∀ j, W.frozen? ⟨b, j, none⟩ = false
  size : B ≤ W.heap.size

theorem Inv.others {B gn gb N b i : Nat} {av : List Nat} {A : Addr → Value → Prop} {c : UInt8} {ms : List UInt8} {L : Nat → List Nat} {ed : Nat} {pre : List (Nat × Nat)} {W W' : World} {row : Option Nat}
    (h : Inv B gn gb N b i av A c ms L ed pre W) (hg : W.grownBy W' row) (hr : ∀ r, row = some r → ∃ o : Obj, W.heap[r]? = some o ∧ o.isCells = false) : Inv B gn gb N b i av A c ms L ed pre W' := by
  have hb : some b ≠ row := fun e => by
    obtain ⟨o, ho, hc⟩ := hr _ e.symm
    rw [cells_of_cell h.cnt ho] at hc
    cases hc
  obtain ⟨T, hT⟩ := h.mem
  exact ⟨⟨T, hT.others hg hr⟩, h.rd.others hg hr, hg.cell h.cnt hb, fun j => (World.frozen?_of_block (a := ⟨b, j, none⟩) (hg.block b (World.block_lt_of_cell? W ⟨b, 8, none⟩ h.cnt) hb)).trans (h.cntf j), Nat.le_trans h.size hg.size⟩

/-- What holds no cells, and what is avoided, lies as it lay. -/
structure Old (gn gb b : Nat) (av : List Nat) (w W : World) : Prop where
  os : W.os = w.os
  tape : W.tape = w.tape
  output : W.output = w.output
  block : ∀ (k : Nat) (o : Obj), w.heap[k]? = some o → (o.isCells = false ∨ (k ∈ av ∧ k ≠ gn ∧ k ≠ gb ∧ k ≠ b)) → W.heap[k]? = some o
theorem Old.refl (gn gb b : Nat) (av : List Nat) (w : World) : Old gn gb b av w w := ⟨rfl, rfl, rfl, fun _ _ h _ => h⟩
theorem Old.trans {gn gb b : Nat} {av : List Nat} {w W X : World} (h : Old gn gb b av w W) (k : Old gn gb b av W X) : Old gn gb b av w X :=
  ⟨k.os.trans h.os, k.tape.trans h.tape, k.output.trans h.output, fun j o hj hc => k.block j o (h.block j o hj hc) hc⟩
theorem Old.others {gn gb b : Nat} {av : List Nat} {w W W' : World} {row : Option Nat} (h : Old gn gb b av w W) (hg : W.grownBy W' row) (hr : ∀ r, row = some r → w.heap.size ≤ r) : Old gn gb b av w W' :=
  ⟨hg.os.trans h.os, hg.tape.trans h.tape, hg.output.trans h.output, fun k o hk hc =>
    (hg.block k (blk_lt (h.block k o hk hc)) (fun e => by have := hr k e.symm; have := blk_lt hk; omega)).trans (h.block k o hk hc)⟩
theorem Old.fewer {gn gb b : Nat} {av av' : List Nat} {w W : World} (h : Old gn gb b av w W) (hs : ∀ q ∈ av', q ∈ av) : Old gn gb b av' w W :=
  ⟨h.os, h.tape, h.output, fun k o hk hc => h.block k o hk (hc.imp id fun ⟨h1, h2⟩ => ⟨hs k h1, h2⟩)⟩

set_option maxHeartbeats 4000000 in
theorem range_any {n : Nat} (hn : 3 ≤ n) {Q : Exit → Act → World → Prop} (code : Code) (hcode : rfNode ((Tryz.f74).body.getD .skip) = some code)
    (x0 x4 x5 x6 x7 x8 x9 x10 x11 x12 x13 x14 x15 x16 x17 x18 x19 x20 x21 x22 x23 x24 x25 x26 x27 x28 x29 x30 x31 x32 x33 x34 x35 x37 x38 x39 x40 x41 x42 x43 x44 x45 x46 x47 x48 x49 x50 x51 x52 x53 x54 x55 x56 x57 x58 x59 x60 x61 x62 x63 x64 x65 x66 x67 x68 x69 x70 x71 x72 x73 x74 x75 x76 x77 x78 x79 x80 x81 x82 x83 x84 x85 x86 x87 x88 x89 x90 x91 x92 x93 x94 : Value) (ds : List Deferred) (p1 p2 p3 q1 q2 b g cap gn gb N R C i ed B : Nat) (c : UInt8) (ms : List UInt8) (av : List Nat) (A : Addr → Value → Prop) (L : Nat → List Nat) (w : World)
    (hC : 1 ≤ C) (hC2 : C ≤ 32) (hR : R ≤ 32) (hi : i < R * C) (hN : R * C = N) (hms : ms.length = N)
    (hw : Ways w) (hq1 : A ⟨q1, 0, none⟩ (.int .i64 (i : Int))) (hq2 : A ⟨q2, 0, none⟩ (.pointer (some ⟨b, 0, none⟩)))
    (hb0 : A ⟨b, 0, none⟩ (.int .i64 (R : Int))) (hb1 : A ⟨b, 1, none⟩ (.int .i64 (C : Int))) (hb2 : A ⟨b, 2, none⟩ (.slice (some ⟨g, 0, none⟩) N cap)) (hb6 : A ⟨b, 6, none⟩ (.slice (some ⟨gn, 0, none⟩) N N)) (hb7 : A ⟨b, 7, none⟩ (.slice (some ⟨gb, 0, none⟩) N N))
    (hp1 : A ⟨p1, 0, none⟩ (.pointer (some ⟨b, 0, none⟩))) (hp2 : A ⟨p2, 0, none⟩ (.int .i64 (i : Int))) (hp3 : A ⟨p3, 0, none⟩ (.int .u8 (c.toNat : Int)))
    (hmk : ∀ u, u < N → A ⟨g, u, none⟩ (.int .u8 ((ms.getD u 0).toNat : Int)))
    (hsafe : ∀ p v, A p v → (∃ j, j ≠ 8 ∧ p = ⟨b, j, none⟩) ∨ (p.block ∈ av ∧ p.block ≠ gn ∧ p.block ≠ gb ∧ p.block ≠ b)) (hbav : b ∈ av)
    (h1av : p1 ∈ av) (h2av : p2 ∈ av) (hd1 : gn ≠ p1) (hd2 : gn ≠ p2) (hdb : gn ≠ b) (he1 : gb ≠ p1) (he2 : gb ≠ p2) (heb : gb ≠ b)
    (hlen : ∀ pre : List (Nat × Nat), pre.length ≤ 4 → ∀ j, (runL N i c ms L pre j).length ≤ 100000) (hed : ed ≤ 100000)
    (h0 : Inv B gn gb N b i av A c ms L ed [] w)
    (hdone : ∀ (D : Nat) (W : World), w.heap.size ≤ D → Inv B gn gb N b i av A c ms L ed (sidesK R C i 4) W → Old gn gb b av w W → W.heap[D]? = some (.deferred (some [])) → Q .normal { tmps := #[x0, .pointer (some ⟨p1, 0, none⟩), .pointer (some ⟨p2, 0, none⟩), .pointer (some ⟨p3, 0, none⟩), x4, x5, x6, x7, x8, x9, x10, x11, x12, x13, x14, x15, x16, x17, x18, x19, x20, x21, x22, x23, x24, x25, x26, x27, x28, x29, x30, x31, x32, x33, x34, x35, .func (.func 137) #[] #[.pointer (some ⟨q1, 0, none⟩), .pointer (some ⟨q2, 0, none⟩)], x37, x38, x39, x40, x41, x42, x43, x44, x45, x46, x47, x48, x49, x50, x51, x52, x53, x54, x55, x56, x57, x58, x59, x60, x61, x62, x63, x64, x65, x66, x67, x68, x69, x70, x71, x72, x73, x74, x75, x76, x77, x78, x79, x80, x81, x82, x83, x84, x85, x86, x87, x88, x89, x90, x91, x92, x93, x94], defers := { target := .collected D, args := #[] } :: ds } W) :
    code.wpIn Fence.wide n Tryz.prog Q { tmps := #[x0, .pointer (some ⟨p1, 0, none⟩), .pointer (some ⟨p2, 0, none⟩), .pointer (some ⟨p3, 0, none⟩), x4, x5, x6, x7, x8, x9, x10, x11, x12, x13, x14, x15, x16, x17, x18, x19, x20, x21, x22, x23, x24, x25, x26, x27, x28, x29, x30, x31, x32, x33, x34, x35, .func (.func 137) #[] #[.pointer (some ⟨q1, 0, none⟩), .pointer (some ⟨q2, 0, none⟩)], x37, x38, x39, x40, x41, x42, x43, x44, x45, x46, x47, x48, x49, x50, x51, x52, x53, x54, x55, x56, x57, x58, x59, x60, x61, x62, x63, x64, x65, x66, x67, x68, x69, x70, x71, x72, x73, x74, x75, x76, x77, x78, x79, x80, x81, x82, x83, x84, x85, x86, x87, x88, x89, x90, x91, x92, x93, x94], defers := ds } w := by
  simp only [Tryz.f74, Option.getD_some, rfNode, Nat.reduceEqDiff, if_false, if_true, Option.orElse_none, Option.orElse_some, Option.some.injEq, reduceCtorEq] at hcode
  subst hcode
  refine wpIn_rangeFunc_ownH rfl (by omega) (gf := 137) (lb := #[.pointer (some ⟨q1, 0, none⟩), .pointer (some ⟨q2, 0, none⟩)]) rfl trivial (enters_of Tryz.func137 (by kernel_rfl) rfl)
    (sides_stops (n - 1) (by omega) q1 q2 b R C i hC hC2 hR hi w hw (h0.rd _ _ hq1) (h0.rd _ _ hq2) (h0.rd _ _ hb0) (h0.rd _ _ hb1)) (fun h k => h.trans k) (fun W l o o' _ ho hc _ => keepsSide_putObj b q1 q2 W l o o' ho hc) (Below.refl _ _) (fun _ => rfl)
    (fun (pre : List (Side R C i)) W => Inv B gn gb N b i av A c ms L ed (List.map (fun x : Side R C i => (x.1 : Nat × Nat)) pre) W ∧ Old gn gb b av w W)
    (fun _ _ _ => False)
    (fun _ _ _ _ hs hg hr => ⟨Inv.others hs.1 hg (fun r e => (hr r e).2), hs.2.others hg (fun r e => (hr r e).1)⟩)
    (fun _ _ _ _ _ hs _ _ => hs)
    ⟨h0, Old.refl _ _ _ _ _⟩
    (fun x a' W => ∃ p5, (W.cell? ⟨p5, 0, none⟩ = some (.int .u8 (mkK x.1.2)) ∧ W.cell? ⟨p5, 1, none⟩ = some (.int .u8 (agK x.1.2)) ∧ W.cell? ⟨p5, 2, none⟩ = some (.int .i64 (dnK x.1.2)) ∧ W.cell? ⟨p5, 3, none⟩ = some (.int .i64 (rtK x.1.2))) ∧ a' = { tmps := #[x0, .pointer (some ⟨p1, 0, none⟩), .pointer (some ⟨p2, 0, none⟩), .pointer (some ⟨p3, 0, none⟩), .int .i64 (x.1.1 : Int), .pointer (some ⟨p5, 0, none⟩), x6, x7, x8, x9, x10, x11, x12, x13, x14, x15, x16, x17, x18, x19, x20, x21, x22, x23, x24, x25, x26, x27, x28, x29, x30, x31, x32, x33, x34, x35, .func (.func 137) #[] #[.pointer (some ⟨q1, 0, none⟩), .pointer (some ⟨q2, 0, none⟩)], .int .i64 (x.1.1 : Int), wayV x.1.2, x39, x40, x41, x42, x43, x44, x45, x46, x47, x48, x49, x50, x51, x52, x53, x54, x55, x56, x57, x58, x59, x60, x61, x62, x63, x64, x65, x66, x67, x68, x69, x70, x71, x72, x73, x74, x75, x76, x77, x78, x79, x80, x81, x82, x83, x84, x85, x86, x87, x88, x89, x90, x91, x92, x93, x94], defers := [] })
    ?hax ?assign ?body ?done ?stop
  case hax =>
    rintro x a' _ X Y row ⟨p5, ⟨z0, z1, z2, z3⟩, rfl⟩ hg hr
    have hne : some p5 ≠ row := fun e => by
      obtain ⟨_, o, ho, hc⟩ := hr _ e.symm
      rw [cells_of_cell z0 ho] at hc
      cases hc
    exact ⟨p5, ⟨hg.cell z0 hne, hg.cell z1 hne, hg.cell z2 hne, hg.cell z3 hne⟩, rfl⟩
  case assign =>
    rintro l pre x W K hI hK
    obtain ⟨⟨u, k⟩, hx⟩ := x
    dsimp only at hK ⊢
    unfold wayV at hK ⊢
    generalize mkK k = mk at hK ⊢
    generalize agK k = ag at hK ⊢
    generalize dnK k = dn at hK ⊢
    generalize rtK k = rt at hK ⊢
    gi_wp2
    refine hK _ _ ?_ ?_ ?_ ⟨W.heap.size, ⟨?_, ?_, ?_, ?_⟩, rfl⟩
    · exact (KeepsOthers.alloc _ _).from _
    · exact KeepsSide.alloc _ _ _ _ _
    · exact ⟨hI.1.others (World.grownBy_alloc _ _ none) (by intro r e; cases e), hI.2.others (World.grownBy_alloc _ _ none) (by intro r e; cases e)⟩
    all_goals (rw [blk_cell (World.alloc_heap_new W _)]; rfl)
  case body =>
    rintro l pre x a' W hl _ ⟨hI, hOld⟩ ⟨p5, ⟨z0, z1, z2, z3⟩, rfl⟩ hlt
    obtain ⟨T, hT⟩ := hI.mem
    have hu : x.1.1 < N := hN ▸ side_bd x.2.2
    have hpl : (List.map (fun x : Side R C i => (x.1 : Nat × Nat)) pre).length ≤ 4 := by rw [List.length_map]; omega
    have hcnt := List.length_filter_le (goes c ms) (List.map (fun x : Side R C i => (x.1 : Nat × Nat)) pre)
    refine body_any _ (by kernel_rfl) _ _ _ _ _ _ _ _ _ _ _ _ _ _ _ _ _ _ _ _ _ _ _ _ _ _ _ _ _ _ _ _ _ _ _ _ _ _ _ _ _ _ _ _ _ _ _ _ _ _ _ _ _ _ _ _ _ _ _ _ _ _ _ _ _ _ _ _ _ _ _ _ _ _ _ _ _ _ _ _ _ _ _ _ _ _ _ _ _ _ p1 p2 p3 p5 b g cap gn gb N i x.1.1 x.1.2 (ed + (List.filter (goes c ms) (List.map (fun x : Side R C i => (x.1 : Nat × Nat)) pre)).length) B c (ms.getD x.1.1 0) av _ T W (by omega) hu
      ⟨hI.rd _ _ hp1, hI.rd _ _ hp3, hI.rd _ _ hb2, hI.rd _ _ (hmk _ hu), z0, z1, z2, z3⟩ (hI.rd _ _ hp2) (hI.rd _ _ hb6) (hI.rd _ _ hb7) hI.cnt hT (hI.cntf 8) (by omega) hI.size (hlen _ hpl i) (hlen _ hpl (N + x.1.1)) h1av h2av hbav hd1 hd2 hdb he1 he2 heb ?_ ?_
    · intro hgo y39 y40 y41 y42 y43 y44 y45 y46 y47 y48 y49 y50 y51 y52 y53 y54 y55 y56 y57 y58 y59 y60 y61 y62 y63 y64 y65 y66 y67 y68 y69 y70 y71 y72 y73 y74 y75 y76 y77 y78 y79 y80 y81 y82 y83 y84 y85 y86 y87 y88 y89 y90 y91 y92 y93 w2 hg
      have hgo' : goes c ms x.1 = false := hgo
      refine ⟨⟨hg.size, fun k o _ hk _ => (hg.block k (blk_lt hk) (by simp)).trans hk⟩, fun p v _ hv => hg.cell hv (by simp), ?_, hOld.others hg (by intro r e; cases e)⟩
      have := hI.others hg (by intro r e; cases e)
      refine ⟨?_, this.rd, ?_, this.cntf, this.size⟩
      · rw [List.map_append]
        show ∃ T, Mem B gn gb N av (runL N i c ms L (_ ++ [x.1])) T w2
        rw [runL_snoc, hgo']
        exact this.mem
      · rw [List.map_append, List.filter_append]
        show w2.cell? _ = some (.int .i64 ((ed + (_ ++ List.filter (goes c ms) [x.1]).length : Nat) : Int))
        simp only [List.filter_cons, hgo', List.filter_nil, List.append_nil, if_false, Bool.false_eq_true]
        exact this.cnt
    · intro hgo y39 y40 y41 y42 y43 y44 y45 y46 y47 y48 y49 y50 y51 y52 y53 y54 y55 y56 y57 y58 y59 y60 y61 y62 y63 y64 y65 y66 y67 y68 y69 y70 y71 y72 y73 y74 y75 y76 y77 y78 y79 y80 y81 y82 y83 y84 y85 y86 y87 y88 y89 y90 y91 y92 y93 T2 w2 hM2 hsz hrel hbc h8 _ hos
      have hgo' : goes c ms x.1 = true := hgo
      have hrd2 : Rd A w2 := by
        intro p v hA
        rcases hsafe p v hA with ⟨j, hj, rfl⟩ | ⟨hav, n1, n2, n3⟩
        · exact (hbc j hj).trans (hI.rd _ _ hA)
        · exact (World.cell?_of_block (hrel p.block (World.block_lt_of_cell? W p (hI.rd _ _ hA)) n1 n2 n3 (fun j hj => hT.far _ hav j hj))).trans (hI.rd _ _ hA)
      have hks : ∀ p v0 v, A p v0 → W.cell? p = some v → w2.cell? p = some v := fun p v0 v hA hv => by
        rw [← hv, hI.rd _ _ hA]; exact hrd2 _ _ hA
      have hnc : ∀ (q : Nat) (o : Obj), W.heap[q]? = some o → o.isCells = false → w2.heap[q]? = some o := by
        intro q o hq hc
        refine (hrel q (blk_lt hq) ?_ ?_ ?_ (fun j hj e => not_own (hT.own j hj) hq hc e.symm)).trans hq
        · intro e
          have := cells_of_cell (hT.cell i (by omega)) (o := o) (by rw [loc_lo (by omega)]; exact e ▸ hq)
          rw [this] at hc; cases hc
        · intro e
          have := cells_of_cell (hT.cell (N + x.1.1) (by omega)) (o := o) (by rw [loc_hi]; exact e ▸ hq)
          rw [this] at hc; cases hc
        · intro e
          have := cells_of_cell hI.cnt (o := o) (e ▸ hq)
          rw [this] at hc; cases hc
      refine ⟨⟨hsz, fun q o _ hq hc => hnc q o hq hc⟩, ?_, ?_, ⟨hos.1.trans hOld.os, hos.2.1.trans hOld.tape, hos.2.2.1.trans hOld.output, fun q o hq hc => ?_⟩⟩
      · intro p v hp hv
        rcases hp with rfl | rfl | rfl | rfl
        · exact hks _ _ _ hb0 hv
        · exact hks _ _ _ hb1 hv
        · exact hks _ _ _ hq1 hv
        · exact hks _ _ _ hq2 hv
      · refine ⟨⟨T2, ?_⟩, hrd2, ?_, fun j => (hos.2.2.2 j).trans (hI.cntf j), Nat.le_trans hI.size hsz⟩
        · rw [List.map_append]
          show Mem B gn gb N av (runL N i c ms L (_ ++ [x.1])) T2 w2
          rw [runL_snoc, hgo', if_pos rfl]
          exact hM2
        · rw [List.map_append, List.filter_append]
          show w2.cell? _ = some (.int .i64 ((ed + (_ ++ List.filter (goes c ms) [x.1]).length : Nat) : Int))
          rw [h8]
          simp [List.filter_cons, hgo']
          omega
      · rcases hc with hc | ⟨hav, n1, n2, n3⟩
        · exact hnc q o (hOld.block q o hq (.inl hc)) hc
        · have hq' := hOld.block q o hq (.inr ⟨hav, n1, n2, n3⟩)
          exact (hrel q (blk_lt hq') n1 n2 n3 (fun j hj => hT.far _ hav j hj)).trans hq'
  case done =>
    rintro D xs W hD hS ⟨hI, hOld⟩ hW
    rw [hS] at hI
    exact hdone D W hD hI hOld hW
  case stop =>
    rintro D c pre W _ _ h _
    exact h.elim
end Go.Proofs.YtekhlaodlagbdaaGreatDoor
