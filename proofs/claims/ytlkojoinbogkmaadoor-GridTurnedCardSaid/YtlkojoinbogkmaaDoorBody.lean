/-
  findEdges: the body of the round.
-/
import Derived.Test.YtlkojoinbogkmaaDoorSides
import Derived.Test.YtlkojoinbogkmaaDoorW2
import Derived.Test.YtlkojoinbogkmaaDoorRound
import Derived.Test.YtlkojoinbogkmaaDoorReg
import Derived.Laws.MakeOwn
import Derived.Deep.AppendLies
namespace Go.Proofs.YtlkojoinbogkmaaDoor
set_option maxRecDepth 100000
set_option linter.unusedSimpArgs false
open Go.RowKit
attribute [local go_sem] Oper.semAt_some

def regAt (k : Nat) : Code → Option (Array Oper)
  | .seq a b => (regAt k a).orElse fun _ => regAt k b
  | .block _ c => regAt k c
  | .loop c => regAt k c
  | .scope c => regAt k c
  | .rangeFunc _ _ _ c => regAt k c
  | .region j ops _ => if j = k then some ops else none
  | _ => none

section
variable {P : Program} {Q : Exit → Act → World → Prop} {S : World → Prop}
theorem take_at {L : List Oper} {i : Nat} {oi : Oper} {v : Value} {fuel : Nat} {listed : Array Bool} {a : Act} {w : World} (hi : L[i]? = some oi)
    (hs : Region.noSelect L.toArray = true) (hf : Region.free .any L.toArray listed i = true) (hr : (Region.ready .any L.toArray listed).contains i = true)
    (hQ : ∀ c a w, Q (.panic c) (a.put oi.dst v) w → Q (.panic c) a w) (hy : YieldsIf P L.toArray S oi v a) (hS : S w)
    (h : wpAnyH P .any L.toArray Q S fuel (listed.setIfInBounds i true) (a.put oi.dst v) w) : wpAnyH P .any L.toArray Q S (fuel + 1) listed a w :=
  wpAnyH_take (by simpa using hi) hs hf hr hQ hy hS h
theorem cons_at {L : List Oper} {fuel : Nat} {listed : Array Bool} {a : Act} {w : World} {i : Nat} {o : Oper} {rs : List Nat} (ho : L[i]? = some o)
    (h : ∀ K' : Act → World → Prop, Shut (∀ a w, S w → (S w → wpAnyH P .any L.toArray Q S fuel (listed.setIfInBounds i true) a w) → K' a w) → if Region.wanted o (yielded L.toArray a.tmps) = true then Oper.wp P o a w K' Q else K' (a.put o.dst undef) w)
    (hs : AllReadyH P .any L.toArray Q S fuel listed a w rs) : AllReadyH P .any L.toArray Q S fuel listed a w (i :: rs) :=
  AllReadyH.cons (by simpa using ho) h hs
end

set_option maxHeartbeats 4000000 in
theorem reg10 {l n : Nat} {Q : Exit → Act → World → Prop} (ops : Array Oper) (hops : regAt 10 ((Tryd.f32).body.getD .skip) = some ops)
    (x0 x3 x5 x6 x7 x8 x9 x10 x11 x12 x13 x14 x15 x16 x17 x18 x19 x20 x21 x22 x23 x24 x25 x26 x27 x28 x29 x30 x31 x32 x33 x34 x35 x36 x37 x38 x39 x40 x41 x42 x43 x44 x45 x46 x47 x48 x49 x50 x51 x52 x53 x54 x55 x56 x57 x58 x59 x60 x61 x62 x63 x64 x65 x66 x67 x68 x69 x70 x71 x72 x73 x74 x75 x76 x77 x78 x79 x80 x81 x82 x83 x84 x85 x86 x87 x88 x89 x90 x91 x92 x93 x94 : Value) (p1 p2 b gn i u N m B : Nat) (v : Value) (xs : List Value) (w : World)
    (c1 : w.cell? ⟨p1, 0, none⟩ = some (.pointer (some ⟨b, 0, none⟩))) (c2 : w.cell? ⟨p2, 0, none⟩ = some (.int .i64 (i : Int)))
    (c6 : w.cell? ⟨b, 6, none⟩ = some (.slice (some ⟨gn, 0, none⟩) N N)) (hi : i < N)
    (cv : w.cell? ⟨gn, i, none⟩ = some v) (fv : w.frozen? ⟨gn, i, none⟩ = false)
    (hown : w.ownsRow B 3 1 v m xs) (hB : B ≤ w.heap.size) (hm : m ≤ 100000) (hn1 : some p1 ≠ v.ownBlock) (hn2 : some p2 ≠ v.ownBlock) (hnb : some b ≠ v.ownBlock) (hng : some gn ≠ v.ownBlock)
    (hd1 : gn ≠ p1) (hd2 : gn ≠ p2) (hdb : gn ≠ b)
    (hQ : ∀ (y55 y56 y57 y58 y59 y60 y61 y62 y63 y64 y65 y66 y67 y68 y69 y70 : Value) (g2 cap2 : Nat) (w2 : World), w.grownBy w2 v.ownBlock → w2.ownsRow B 3 1 (.slice (some ⟨g2, 0, none⟩) (m + 1) cap2) (m + 1) (xs ++ [.int .i64 (u : Int)]) → (v.ownBlock = some g2 ∨ w.heap.size ≤ g2) → g2 < w2.heap.size →
      Q .normal { tmps := #[x0, .pointer (some ⟨p1, 0, none⟩), .pointer (some ⟨p2, 0, none⟩), x3, .int .i64 (u : Int), x5, x6, x7, x8, x9, x10, x11, x12, x13, x14, x15, x16, x17, x18, x19, x20, x21, x22, x23, x24, x25, x26, x27, x28, x29, x30, x31, x32, x33, x34, x35, x36, x37, x38, x39, x40, x41, x42, x43, x44, x45, x46, x47, x48, x49, x50, x51, x52, x53, x54, y55, y56, y57, y58, y59, y60, y61, y62, y63, y64, y65, y66, y67, y68, y69, y70, x71, x72, x73, x74, x75, x76, x77, x78, x79, x80, x81, x82, x83, x84, x85, x86, x87, x88, x89, x90, x91, x92, x93, x94], defers := [] } (w2.setCell ⟨gn, i, none⟩ (.slice (some ⟨g2, 0, none⟩) (m + 1) cap2))) :
    (Code.region 10 ops true).wpIn (Fence.wide.inRound l) n Tryd.prog Q { tmps := #[x0, .pointer (some ⟨p1, 0, none⟩), .pointer (some ⟨p2, 0, none⟩), x3, .int .i64 (u : Int), x5, x6, x7, x8, x9, x10, x11, x12, x13, x14, x15, x16, x17, x18, x19, x20, x21, x22, x23, x24, x25, x26, x27, x28, x29, x30, x31, x32, x33, x34, x35, x36, x37, x38, x39, x40, x41, x42, x43, x44, x45, x46, x47, x48, x49, x50, x51, x52, x53, x54, x55, x56, x57, x58, x59, x60, x61, x62, x63, x64, x65, x66, x67, x68, x69, x70, x71, x72, x73, x74, x75, x76, x77, x78, x79, x80, x81, x82, x83, x84, x85, x86, x87, x88, x89, x90, x91, x92, x93, x94], defers := [] } w := by
  simp only [Tryd.f32, Option.getD_some, regAt, Nat.reduceEqDiff, if_false, if_true, Option.orElse_none, Option.orElse_some, Option.some.injEq, reduceCtorEq] at hops
  subst hops
  obtain ⟨i0, hi0', hz0, hz1, hz2⟩ := info_parts Tryd.infoInt
  have hiN : (i : Int) < (N : Int) := by omega
  have hi0 : (0 : Int) ≤ (i : Int) := by omega
  refine wpIn_region_held (S := fun w' => w'.cell? ⟨p1, 0, none⟩ = some (.pointer (some ⟨b, 0, none⟩)) ∧ w'.cell? ⟨p2, 0, none⟩ = some (.int .i64 (i : Int)) ∧ w'.cell? ⟨b, 6, none⟩ = some (.slice (some ⟨gn, 0, none⟩) N N)) (by kernel_rfl) (by kernel_rfl) ⟨c1, c2, c6⟩ (fun hHeld => ?_)
  simp only [List.size_toArray, List.length_cons, List.length_nil, Nat.reduceAdd, Array.replicate_succ, Array.replicate_zero, List.push_toArray, List.nil_append, List.cons_append, List.append_toArray]
  refine take_at (i := 0) (v := ?_) rfl (by kernel_rfl) (by kernel_rfl) (by kernel_rfl) (fun _ _ _ h => h) (Or.inl ⟨by rfl, ?_⟩) (by assumption) ?_
  rotate_left
  · (intro w' hSw; (try dsimp only at hSw); go_simp; (try with_reducible rfl))
  simp only [Act.put, List.setIfInBounds_toArray, List.set_cons_zero, List.set_cons_succ]
  refine take_at (i := 1) (v := ?_) rfl (by kernel_rfl) (by kernel_rfl) (by kernel_rfl) (fun _ _ _ h => h) (Or.inl ⟨by rfl, ?_⟩) (by assumption) ?_
  rotate_left
  · (intro w' hSw; (try dsimp only at hSw); go_simp; (try with_reducible rfl))
  simp only [Act.put, List.setIfInBounds_toArray, List.set_cons_zero, List.set_cons_succ]
  refine take_at (i := 2) (v := ?_) rfl (by kernel_rfl) (by kernel_rfl) (by kernel_rfl) (fun _ _ _ h => h) (Or.inl ⟨by rfl, ?_⟩) (by assumption) ?_
  rotate_left
  · (intro w' hSw; (try dsimp only at hSw); go_simp; (try with_reducible rfl))
  simp only [Act.put, List.setIfInBounds_toArray, List.set_cons_zero, List.set_cons_succ]
  refine take_at (i := 3) (v := ?_) rfl (by kernel_rfl) (by kernel_rfl) (by kernel_rfl) (fun _ _ _ h => h) (Or.inl ⟨by rfl, ?_⟩) (by assumption) ?_
  rotate_left
  · (intro w' hSw; (try dsimp only at hSw); go_simp; (try with_reducible rfl))
  simp only [Act.put, List.setIfInBounds_toArray, List.set_cons_zero, List.set_cons_succ]
  refine take_at (i := 4) (v := ?_) rfl (by kernel_rfl) (by kernel_rfl) (by kernel_rfl) (fun _ _ _ h => h) (Or.inl ⟨by rfl, ?_⟩) (by assumption) ?_
  rotate_left
  · (intro w' hSw; (try dsimp only at hSw); go_simp; (try with_reducible rfl))
  simp only [Act.put, List.setIfInBounds_toArray, List.set_cons_zero, List.set_cons_succ]
  refine take_at (i := 5) (v := ?_) rfl (by kernel_rfl) (by kernel_rfl) (by kernel_rfl) (fun _ _ _ h => h) (Or.inl ⟨by rfl, ?_⟩) (by assumption) ?_
  rotate_left
  · (intro w' hSw; (try dsimp only at hSw); go_simp; (try with_reducible rfl))
  simp only [Act.put, List.setIfInBounds_toArray, List.set_cons_zero, List.set_cons_succ]
  refine take_at (i := 6) (v := ?_) rfl (by kernel_rfl) (by kernel_rfl) (by kernel_rfl) (fun _ _ _ h => h) (Or.inl ⟨by rfl, ?_⟩) (by assumption) ?_
  rotate_left
  · (intro w' hSw; (try dsimp only at hSw); go_simp; (try with_reducible rfl))
  simp only [Act.put, List.setIfInBounds_toArray, List.set_cons_zero, List.set_cons_succ]
  refine take_at (i := 7) (v := ?_) rfl (by kernel_rfl) (by kernel_rfl) (by kernel_rfl) (fun _ _ _ h => h) (Or.inl ⟨by rfl, ?_⟩) (by assumption) ?_
  rotate_left
  · (intro w' hSw; (try dsimp only at hSw); go_simp; (try with_reducible rfl))
  simp only [Act.put, List.setIfInBounds_toArray, List.set_cons_zero, List.set_cons_succ]
  refine take_at (i := 8) (v := ?_) rfl (by kernel_rfl) (by kernel_rfl) (by kernel_rfl) (fun _ _ _ h => h) (Or.inl ⟨by rfl, ?_⟩) (by assumption) ?_
  rotate_left
  · (intro w' hSw; (try dsimp only at hSw); go_simp; (try with_reducible rfl))
  simp only [Act.put, List.setIfInBounds_toArray, List.set_cons_zero, List.set_cons_succ]
  refine take_at (i := 9) (v := ?_) rfl (by kernel_rfl) (by kernel_rfl) (by kernel_rfl) (fun _ _ _ h => h) (Or.inl ⟨by rfl, ?_⟩) (by assumption) ?_
  rotate_left
  · (intro w' hSw; (try dsimp only at hSw); go_simp; (try with_reducible rfl))
  simp only [Act.put, List.setIfInBounds_toArray, List.set_cons_zero, List.set_cons_succ]
  refine take_at (i := 10) (v := ?_) rfl (by kernel_rfl) (by kernel_rfl) (by kernel_rfl) (fun _ _ _ h => h) (Or.inl ⟨by rfl, ?_⟩) (by assumption) ?_
  rotate_left
  · (intro w' hSw; (try dsimp only at hSw); go_simp; (try with_reducible rfl))
  simp only [Act.put, List.setIfInBounds_toArray, List.set_cons_zero, List.set_cons_succ]
  refine take_at (i := 12) (v := ?_) rfl (by kernel_rfl) (by kernel_rfl) (by kernel_rfl) (fun _ _ _ h => h) (Or.inl ⟨by rfl, ?_⟩) (by assumption) ?_
  rotate_left
  · (intro w' hSw; (try dsimp only at hSw); go_simp; (try with_reducible rfl))
  simp only [Act.put, List.setIfInBounds_toArray, List.set_cons_zero, List.set_cons_succ]
  have hu1 : ∀ (A : World), A.heap[w.heap.size]? = some (.cells #[.int .i64 (u : Int)] 3) → ∀ (t : Nat) (x : Value), ([.int .i64 (u : Int)] : List Value)[t]? = some x → A.cell? ((⟨w.heap.size, 0, none⟩ : Addr).add t) = some x := by
    intro A hA t x ht
    match t, ht with
    | 0, ht => simp at ht; subst ht; simp [Addr.add, World.cell?, hA]
  have hw3 : ∀ w2, (w.alloc (.cells #[.int .i64 (u : Int)] 3)).drew.grownBy w2 v.ownBlock → w.grownBy w2 v.ownBlock := fun w2 hg =>
    ⟨hg.os, hg.tape, hg.output, Nat.le_trans (World.grownBy_alloc w (.cells #[.int .i64 (u : Int)] 3) none).size hg.size, fun k hk hne => (hg.block k (Nat.lt_of_lt_of_le hk (World.grownBy_alloc w (.cells #[.int .i64 (u : Int)] 3) none).size) hne).trans ((World.grownBy_alloc w (.cells #[.int .i64 (u : Int)] 3) none).block k hk (by simp))⟩
  have hnew : (w.alloc (.cells #[.int .i64 (u : Int)] 3)).drew.heap[w.heap.size]? = some (.cells #[.int .i64 (u : Int)] 3) := World.alloc_heap_new w _
  have hsA : w.heap.size ≤ (w.alloc (.cells #[.int .i64 (u : Int)] 3)).drew.heap.size := (World.grownBy_alloc w (.cells #[.int .i64 (u : Int)] 3) none).size
  have d1 : (w.alloc (.cells #[.int .i64 (u : Int)] 3)).cell? ⟨p1, 0, none⟩ = some (.pointer (some ⟨b, 0, none⟩)) := (World.cell?_alloc_some w _ _ (by rw [c1]; rfl)).trans c1
  have d2 : (w.alloc (.cells #[.int .i64 (u : Int)] 3)).cell? ⟨p2, 0, none⟩ = some (.int .i64 (i : Int)) := (World.cell?_alloc_some w _ _ (by rw [c2]; rfl)).trans c2
  have d6 : (w.alloc (.cells #[.int .i64 (u : Int)] 3)).cell? ⟨b, 6, none⟩ = some (.slice (some ⟨gn, 0, none⟩) N N) := (World.cell?_alloc_some w _ _ (by rw [c6]; rfl)).trans c6
  have dv : (w.alloc (.cells #[.int .i64 (u : Int)] 3)).cell? ⟨gn, i, none⟩ = some v := (World.cell?_alloc_some w _ _ (by rw [cv]; rfl)).trans cv
  have hownA : (w.alloc (.cells #[.int .i64 (u : Int)] 3)).drew.ownsRow B 3 1 v m xs := (hown.alloc _)
  refine wpAnyH_ready (rs := [11, 13]) (by kernel_rfl) (by simp) ?_
  refine cons_at rfl (fun K hK => ?_) (cons_at rfl (fun K hK => ?_) AllReadyH.nil)
  · go_simp
    refine hK.out _ _ ⟨c1, c2, c6⟩ (fun hHeld2 => ?_)
    clear hK K hHeld
    (try simp only [Act.put, List.setIfInBounds_toArray, List.set_cons_zero, List.set_cons_succ])
    refine wpAnyH_ready (rs := [13]) (by kernel_rfl) (by simp) ?_
    refine cons_at rfl (fun K hK => ?_) AllReadyH.nil
    go_simp
    refine hK.out _ _ ⟨d1, d2, d6⟩ (fun hHeld => ?_)
    clear hK K hHeld2
    (try simp only [Act.put, List.setIfInBounds_toArray, List.set_cons_zero, List.set_cons_succ])
    refine wpAnyH_ready (rs := [14]) (by kernel_rfl) (by simp) ?_
    refine cons_at rfl (fun K hK => ?_) AllReadyH.nil
    refine step_append_lies _ rfl (.tmp 66) (.tmp 68) 30 rfl B 3 i0 (.int .i64 0) 1 8 Tryd.underlying30 hi0' hz0 hz1 hz2 rfl (by decide) v m xs (by simp [Act.eval]) hownA ⟨w.heap.size, 0, none⟩ 1 1 [.int .i64 (u : Int)] (by simp [Act.eval]) rfl (hu1 _ hnew) (by intro u hu; simp at hu; subst hu; rfl) (by decide) (by unfold maxLen; omega) (by omega) (Nat.le_trans hB hsA) _ rfl ?_
    intro g2 cap2 w2 ho2 hg2 hat hlt2
    have hat2 : v.ownBlock = some g2 ∨ w.heap.size ≤ g2 := by rcases hat with h | h; exact .inl h; exact .inr (by rw [h]; exact hsA)
    have hg3 := hw3 w2 hg2
    have e1 := hg3.cell c1 hn1
    have e2 := hg3.cell c2 hn2
    have e6 := hg3.cell c6 hnb
    have ev := hg3.cell cv hng
    have ef := (World.frozen?_of_block (a := ⟨gn, i, none⟩) (hg3.block gn (World.block_lt_of_cell? w _ cv) hng)).trans fv
    refine hK.out _ _ ⟨e1, e2, e6⟩ (fun hHeld2 => ?_)
    clear hK K hHeld
    (try simp only [Act.put, List.setIfInBounds_toArray, List.set_cons_zero, List.set_cons_succ])
    refine take_at (i := 15) (v := ?_) rfl (by kernel_rfl) (by kernel_rfl) (by kernel_rfl) (fun _ _ _ h => h) (Or.inl ⟨by rfl, ?_⟩) (by assumption) ?_
    rotate_left
    · (intro w' hSw; (try dsimp only at hSw); go_simp; (try with_reducible rfl))
    simp only [Act.put, List.setIfInBounds_toArray, List.set_cons_zero, List.set_cons_succ]
    refine wpAnyH_ready (rs := [16]) (by kernel_rfl) (by simp) ?_
    refine cons_at rfl (fun K hK => ?_) AllReadyH.nil
    go_simp
    refine hK.out _ _ ⟨(World.cell?_setCell_far _ _ _ _ hd1).trans e1, (World.cell?_setCell_far _ _ _ _ hd2).trans e2, (World.cell?_setCell_far _ _ _ _ hdb).trans e6⟩ (fun hHeld => ?_)
    clear hK K hHeld2
    (try simp only [Act.put, List.setIfInBounds_toArray, List.set_cons_zero, List.set_cons_succ])
    refine wpAnyH_done (by kernel_rfl) ?_ _
    exact hQ _ _ _ _ _ _ _ _ _ _ _ _ _ _ _ _ g2 cap2 w2 hg3 ho2 hat2 hlt2
  · go_simp
    refine hK.out _ _ ⟨d1, d2, d6⟩ (fun hHeld2 => ?_)
    clear hK K hHeld
    (try simp only [Act.put, List.setIfInBounds_toArray, List.set_cons_zero, List.set_cons_succ])
    refine wpAnyH_ready (rs := [11]) (by kernel_rfl) (by simp) ?_
    refine cons_at rfl (fun K hK => ?_) AllReadyH.nil
    go_simp
    refine hK.out _ _ ⟨d1, d2, d6⟩ (fun hHeld => ?_)
    clear hK K hHeld2
    (try simp only [Act.put, List.setIfInBounds_toArray, List.set_cons_zero, List.set_cons_succ])
    refine wpAnyH_ready (rs := [14]) (by kernel_rfl) (by simp) ?_
    refine cons_at rfl (fun K hK => ?_) AllReadyH.nil
    refine step_append_lies _ rfl (.tmp 66) (.tmp 68) 30 rfl B 3 i0 (.int .i64 0) 1 8 Tryd.underlying30 hi0' hz0 hz1 hz2 rfl (by decide) v m xs (by simp [Act.eval]) hownA ⟨w.heap.size, 0, none⟩ 1 1 [.int .i64 (u : Int)] (by simp [Act.eval]) rfl (hu1 _ hnew) (by intro u hu; simp at hu; subst hu; rfl) (by decide) (by unfold maxLen; omega) (by omega) (Nat.le_trans hB hsA) _ rfl ?_
    intro g2 cap2 w2 ho2 hg2 hat hlt2
    have hat2 : v.ownBlock = some g2 ∨ w.heap.size ≤ g2 := by rcases hat with h | h; exact .inl h; exact .inr (by rw [h]; exact hsA)
    have hg3 := hw3 w2 hg2
    have e1 := hg3.cell c1 hn1
    have e2 := hg3.cell c2 hn2
    have e6 := hg3.cell c6 hnb
    have ev := hg3.cell cv hng
    have ef := (World.frozen?_of_block (a := ⟨gn, i, none⟩) (hg3.block gn (World.block_lt_of_cell? w _ cv) hng)).trans fv
    refine hK.out _ _ ⟨e1, e2, e6⟩ (fun hHeld2 => ?_)
    clear hK K hHeld
    (try simp only [Act.put, List.setIfInBounds_toArray, List.set_cons_zero, List.set_cons_succ])
    refine take_at (i := 15) (v := ?_) rfl (by kernel_rfl) (by kernel_rfl) (by kernel_rfl) (fun _ _ _ h => h) (Or.inl ⟨by rfl, ?_⟩) (by assumption) ?_
    rotate_left
    · (intro w' hSw; (try dsimp only at hSw); go_simp; (try with_reducible rfl))
    simp only [Act.put, List.setIfInBounds_toArray, List.set_cons_zero, List.set_cons_succ]
    refine wpAnyH_ready (rs := [16]) (by kernel_rfl) (by simp) ?_
    refine cons_at rfl (fun K hK => ?_) AllReadyH.nil
    go_simp
    refine hK.out _ _ ⟨(World.cell?_setCell_far _ _ _ _ hd1).trans e1, (World.cell?_setCell_far _ _ _ _ hd2).trans e2, (World.cell?_setCell_far _ _ _ _ hdb).trans e6⟩ (fun hHeld => ?_)
    clear hK K hHeld2
    (try simp only [Act.put, List.setIfInBounds_toArray, List.set_cons_zero, List.set_cons_succ])
    refine wpAnyH_done (by kernel_rfl) ?_ _
    exact hQ _ _ _ _ _ _ _ _ _ _ _ _ _ _ _ _ g2 cap2 w2 hg3 ho2 hat2 hlt2

set_option maxHeartbeats 4000000 in
theorem reg11 {l n : Nat} {Q : Exit → Act → World → Prop} (ops : Array Oper) (hops : regAt 11 ((Tryd.f32).body.getD .skip) = some ops)
    (x0 x3 x5 x6 x7 x8 x9 x10 x11 x12 x13 x14 x15 x16 x17 x18 x19 x20 x21 x22 x23 x24 x25 x26 x27 x28 x29 x30 x31 x32 x33 x34 x35 x36 x37 x38 x39 x40 x41 x42 x43 x44 x45 x46 x47 x48 x49 x50 x51 x52 x53 x54 x55 x56 x57 x58 x59 x60 x61 x62 x63 x64 x65 x66 x67 x68 x69 x70 x71 x72 x73 x74 x75 x76 x77 x78 x79 x80 x81 x82 x83 x84 x85 x86 x87 x88 x89 x90 x91 x92 x93 x94 : Value) (p1 p2 b gn i u N m B : Nat) (v : Value) (xs : List Value) (w : World)
    (c1 : w.cell? ⟨p1, 0, none⟩ = some (.pointer (some ⟨b, 0, none⟩))) (c2 : w.cell? ⟨p2, 0, none⟩ = some (.int .i64 (u : Int)))
    (c6 : w.cell? ⟨b, 7, none⟩ = some (.slice (some ⟨gn, 0, none⟩) N N)) (hi : i < N)
    (cv : w.cell? ⟨gn, i, none⟩ = some v) (fv : w.frozen? ⟨gn, i, none⟩ = false)
    (hown : w.ownsRow B 3 1 v m xs) (hB : B ≤ w.heap.size) (hm : m ≤ 100000) (hn1 : some p1 ≠ v.ownBlock) (hn2 : some p2 ≠ v.ownBlock) (hnb : some b ≠ v.ownBlock) (hng : some gn ≠ v.ownBlock)
    (hd1 : gn ≠ p1) (hd2 : gn ≠ p2) (hdb : gn ≠ b)
    (hQ : ∀ (y71 y72 y73 y74 y75 y76 y77 y78 y79 y80 y81 y82 y83 y84 y85 y86 : Value) (g2 cap2 : Nat) (w2 : World), w.grownBy w2 v.ownBlock → w2.ownsRow B 3 1 (.slice (some ⟨g2, 0, none⟩) (m + 1) cap2) (m + 1) (xs ++ [.int .i64 (u : Int)]) → (v.ownBlock = some g2 ∨ w.heap.size ≤ g2) → g2 < w2.heap.size →
      Q .normal { tmps := #[x0, .pointer (some ⟨p1, 0, none⟩), .pointer (some ⟨p2, 0, none⟩), x3, .int .i64 (i : Int), x5, x6, x7, x8, x9, x10, x11, x12, x13, x14, x15, x16, x17, x18, x19, x20, x21, x22, x23, x24, x25, x26, x27, x28, x29, x30, x31, x32, x33, x34, x35, x36, x37, x38, x39, x40, x41, x42, x43, x44, x45, x46, x47, x48, x49, x50, x51, x52, x53, x54, x55, x56, x57, x58, x59, x60, x61, x62, x63, x64, x65, x66, x67, x68, x69, x70, y71, y72, y73, y74, y75, y76, y77, y78, y79, y80, y81, y82, y83, y84, y85, y86, x87, x88, x89, x90, x91, x92, x93, x94], defers := [] } (w2.setCell ⟨gn, i, none⟩ (.slice (some ⟨g2, 0, none⟩) (m + 1) cap2))) :
    (Code.region 11 ops true).wpIn (Fence.wide.inRound l) n Tryd.prog Q { tmps := #[x0, .pointer (some ⟨p1, 0, none⟩), .pointer (some ⟨p2, 0, none⟩), x3, .int .i64 (i : Int), x5, x6, x7, x8, x9, x10, x11, x12, x13, x14, x15, x16, x17, x18, x19, x20, x21, x22, x23, x24, x25, x26, x27, x28, x29, x30, x31, x32, x33, x34, x35, x36, x37, x38, x39, x40, x41, x42, x43, x44, x45, x46, x47, x48, x49, x50, x51, x52, x53, x54, x55, x56, x57, x58, x59, x60, x61, x62, x63, x64, x65, x66, x67, x68, x69, x70, x71, x72, x73, x74, x75, x76, x77, x78, x79, x80, x81, x82, x83, x84, x85, x86, x87, x88, x89, x90, x91, x92, x93, x94], defers := [] } w := by
  simp only [Tryd.f32, Option.getD_some, regAt, Nat.reduceEqDiff, if_false, if_true, Option.orElse_none, Option.orElse_some, Option.some.injEq, reduceCtorEq] at hops
  subst hops
  obtain ⟨i0, hi0', hz0, hz1, hz2⟩ := info_parts Tryd.infoInt
  have hiN : (i : Int) < (N : Int) := by omega
  have hi0 : (0 : Int) ≤ (i : Int) := by omega
  refine wpIn_region_held (S := fun w' => w'.cell? ⟨p1, 0, none⟩ = some (.pointer (some ⟨b, 0, none⟩)) ∧ w'.cell? ⟨p2, 0, none⟩ = some (.int .i64 (u : Int)) ∧ w'.cell? ⟨b, 7, none⟩ = some (.slice (some ⟨gn, 0, none⟩) N N)) (by kernel_rfl) (by kernel_rfl) ⟨c1, c2, c6⟩ (fun hHeld => ?_)
  simp only [List.size_toArray, List.length_cons, List.length_nil, Nat.reduceAdd, Array.replicate_succ, Array.replicate_zero, List.push_toArray, List.nil_append, List.cons_append, List.append_toArray]
  refine take_at (i := 0) (v := ?_) rfl (by kernel_rfl) (by kernel_rfl) (by kernel_rfl) (fun _ _ _ h => h) (Or.inl ⟨by rfl, ?_⟩) (by assumption) ?_
  rotate_left
  · (intro w' hSw; (try dsimp only at hSw); go_simp; (try with_reducible rfl))
  simp only [Act.put, List.setIfInBounds_toArray, List.set_cons_zero, List.set_cons_succ]
  refine take_at (i := 1) (v := ?_) rfl (by kernel_rfl) (by kernel_rfl) (by kernel_rfl) (fun _ _ _ h => h) (Or.inl ⟨by rfl, ?_⟩) (by assumption) ?_
  rotate_left
  · (intro w' hSw; (try dsimp only at hSw); go_simp; (try with_reducible rfl))
  simp only [Act.put, List.setIfInBounds_toArray, List.set_cons_zero, List.set_cons_succ]
  refine take_at (i := 2) (v := ?_) rfl (by kernel_rfl) (by kernel_rfl) (by kernel_rfl) (fun _ _ _ h => h) (Or.inl ⟨by rfl, ?_⟩) (by assumption) ?_
  rotate_left
  · (intro w' hSw; (try dsimp only at hSw); go_simp; (try with_reducible rfl))
  simp only [Act.put, List.setIfInBounds_toArray, List.set_cons_zero, List.set_cons_succ]
  refine take_at (i := 3) (v := ?_) rfl (by kernel_rfl) (by kernel_rfl) (by kernel_rfl) (fun _ _ _ h => h) (Or.inl ⟨by rfl, ?_⟩) (by assumption) ?_
  rotate_left
  · (intro w' hSw; (try dsimp only at hSw); go_simp; (try with_reducible rfl))
  simp only [Act.put, List.setIfInBounds_toArray, List.set_cons_zero, List.set_cons_succ]
  refine take_at (i := 4) (v := ?_) rfl (by kernel_rfl) (by kernel_rfl) (by kernel_rfl) (fun _ _ _ h => h) (Or.inl ⟨by rfl, ?_⟩) (by assumption) ?_
  rotate_left
  · (intro w' hSw; (try dsimp only at hSw); go_simp; (try with_reducible rfl))
  simp only [Act.put, List.setIfInBounds_toArray, List.set_cons_zero, List.set_cons_succ]
  refine take_at (i := 5) (v := ?_) rfl (by kernel_rfl) (by kernel_rfl) (by kernel_rfl) (fun _ _ _ h => h) (Or.inl ⟨by rfl, ?_⟩) (by assumption) ?_
  rotate_left
  · (intro w' hSw; (try dsimp only at hSw); go_simp; (try with_reducible rfl))
  simp only [Act.put, List.setIfInBounds_toArray, List.set_cons_zero, List.set_cons_succ]
  refine take_at (i := 6) (v := ?_) rfl (by kernel_rfl) (by kernel_rfl) (by kernel_rfl) (fun _ _ _ h => h) (Or.inl ⟨by rfl, ?_⟩) (by assumption) ?_
  rotate_left
  · (intro w' hSw; (try dsimp only at hSw); go_simp; (try with_reducible rfl))
  simp only [Act.put, List.setIfInBounds_toArray, List.set_cons_zero, List.set_cons_succ]
  refine take_at (i := 7) (v := ?_) rfl (by kernel_rfl) (by kernel_rfl) (by kernel_rfl) (fun _ _ _ h => h) (Or.inl ⟨by rfl, ?_⟩) (by assumption) ?_
  rotate_left
  · (intro w' hSw; (try dsimp only at hSw); go_simp; (try with_reducible rfl))
  simp only [Act.put, List.setIfInBounds_toArray, List.set_cons_zero, List.set_cons_succ]
  refine take_at (i := 8) (v := ?_) rfl (by kernel_rfl) (by kernel_rfl) (by kernel_rfl) (fun _ _ _ h => h) (Or.inl ⟨by rfl, ?_⟩) (by assumption) ?_
  rotate_left
  · (intro w' hSw; (try dsimp only at hSw); go_simp; (try with_reducible rfl))
  simp only [Act.put, List.setIfInBounds_toArray, List.set_cons_zero, List.set_cons_succ]
  refine take_at (i := 9) (v := ?_) rfl (by kernel_rfl) (by kernel_rfl) (by kernel_rfl) (fun _ _ _ h => h) (Or.inl ⟨by rfl, ?_⟩) (by assumption) ?_
  rotate_left
  · (intro w' hSw; (try dsimp only at hSw); go_simp; (try with_reducible rfl))
  simp only [Act.put, List.setIfInBounds_toArray, List.set_cons_zero, List.set_cons_succ]
  refine take_at (i := 10) (v := ?_) rfl (by kernel_rfl) (by kernel_rfl) (by kernel_rfl) (fun _ _ _ h => h) (Or.inl ⟨by rfl, ?_⟩) (by assumption) ?_
  rotate_left
  · (intro w' hSw; (try dsimp only at hSw); go_simp; (try with_reducible rfl))
  simp only [Act.put, List.setIfInBounds_toArray, List.set_cons_zero, List.set_cons_succ]
  refine take_at (i := 12) (v := ?_) rfl (by kernel_rfl) (by kernel_rfl) (by kernel_rfl) (fun _ _ _ h => h) (Or.inl ⟨by rfl, ?_⟩) (by assumption) ?_
  rotate_left
  · (intro w' hSw; (try dsimp only at hSw); go_simp; (try with_reducible rfl))
  simp only [Act.put, List.setIfInBounds_toArray, List.set_cons_zero, List.set_cons_succ]
  have hu1 : ∀ (A : World), A.heap[w.heap.size]? = some (.cells #[.int .i64 (u : Int)] 3) → ∀ (t : Nat) (x : Value), ([.int .i64 (u : Int)] : List Value)[t]? = some x → A.cell? ((⟨w.heap.size, 0, none⟩ : Addr).add t) = some x := by
    intro A hA t x ht
    match t, ht with
    | 0, ht => simp at ht; subst ht; simp [Addr.add, World.cell?, hA]
  have hw3 : ∀ w2, (w.alloc (.cells #[.int .i64 (u : Int)] 3)).drew.grownBy w2 v.ownBlock → w.grownBy w2 v.ownBlock := fun w2 hg =>
    ⟨hg.os, hg.tape, hg.output, Nat.le_trans (World.grownBy_alloc w (.cells #[.int .i64 (u : Int)] 3) none).size hg.size, fun k hk hne => (hg.block k (Nat.lt_of_lt_of_le hk (World.grownBy_alloc w (.cells #[.int .i64 (u : Int)] 3) none).size) hne).trans ((World.grownBy_alloc w (.cells #[.int .i64 (u : Int)] 3) none).block k hk (by simp))⟩
  have hnew : (w.alloc (.cells #[.int .i64 (u : Int)] 3)).drew.heap[w.heap.size]? = some (.cells #[.int .i64 (u : Int)] 3) := World.alloc_heap_new w _
  have hsA : w.heap.size ≤ (w.alloc (.cells #[.int .i64 (u : Int)] 3)).drew.heap.size := (World.grownBy_alloc w (.cells #[.int .i64 (u : Int)] 3) none).size
  have d1 : (w.alloc (.cells #[.int .i64 (u : Int)] 3)).cell? ⟨p1, 0, none⟩ = some (.pointer (some ⟨b, 0, none⟩)) := (World.cell?_alloc_some w _ _ (by rw [c1]; rfl)).trans c1
  have d2 : (w.alloc (.cells #[.int .i64 (u : Int)] 3)).cell? ⟨p2, 0, none⟩ = some (.int .i64 (u : Int)) := (World.cell?_alloc_some w _ _ (by rw [c2]; rfl)).trans c2
  have d6 : (w.alloc (.cells #[.int .i64 (u : Int)] 3)).cell? ⟨b, 7, none⟩ = some (.slice (some ⟨gn, 0, none⟩) N N) := (World.cell?_alloc_some w _ _ (by rw [c6]; rfl)).trans c6
  have dv : (w.alloc (.cells #[.int .i64 (u : Int)] 3)).cell? ⟨gn, i, none⟩ = some v := (World.cell?_alloc_some w _ _ (by rw [cv]; rfl)).trans cv
  have hownA : (w.alloc (.cells #[.int .i64 (u : Int)] 3)).drew.ownsRow B 3 1 v m xs := (hown.alloc _)
  refine wpAnyH_ready (rs := [11, 13]) (by kernel_rfl) (by simp) ?_
  refine cons_at rfl (fun K hK => ?_) (cons_at rfl (fun K hK => ?_) AllReadyH.nil)
  · go_simp
    refine hK.out _ _ ⟨c1, c2, c6⟩ (fun hHeld2 => ?_)
    clear hK K hHeld
    (try simp only [Act.put, List.setIfInBounds_toArray, List.set_cons_zero, List.set_cons_succ])
    refine wpAnyH_ready (rs := [13]) (by kernel_rfl) (by simp) ?_
    refine cons_at rfl (fun K hK => ?_) AllReadyH.nil
    go_simp
    refine hK.out _ _ ⟨d1, d2, d6⟩ (fun hHeld => ?_)
    clear hK K hHeld2
    (try simp only [Act.put, List.setIfInBounds_toArray, List.set_cons_zero, List.set_cons_succ])
    refine wpAnyH_ready (rs := [14]) (by kernel_rfl) (by simp) ?_
    refine cons_at rfl (fun K hK => ?_) AllReadyH.nil
    refine step_append_lies _ rfl (.tmp 82) (.tmp 84) 30 rfl B 3 i0 (.int .i64 0) 1 8 Tryd.underlying30 hi0' hz0 hz1 hz2 rfl (by decide) v m xs (by simp [Act.eval]) hownA ⟨w.heap.size, 0, none⟩ 1 1 [.int .i64 (u : Int)] (by simp [Act.eval]) rfl (hu1 _ hnew) (by intro u hu; simp at hu; subst hu; rfl) (by decide) (by unfold maxLen; omega) (by omega) (Nat.le_trans hB hsA) _ rfl ?_
    intro g2 cap2 w2 ho2 hg2 hat hlt2
    have hat2 : v.ownBlock = some g2 ∨ w.heap.size ≤ g2 := by rcases hat with h | h; exact .inl h; exact .inr (by rw [h]; exact hsA)
    have hg3 := hw3 w2 hg2
    have e1 := hg3.cell c1 hn1
    have e2 := hg3.cell c2 hn2
    have e6 := hg3.cell c6 hnb
    have ev := hg3.cell cv hng
    have ef := (World.frozen?_of_block (a := ⟨gn, i, none⟩) (hg3.block gn (World.block_lt_of_cell? w _ cv) hng)).trans fv
    refine hK.out _ _ ⟨e1, e2, e6⟩ (fun hHeld2 => ?_)
    clear hK K hHeld
    (try simp only [Act.put, List.setIfInBounds_toArray, List.set_cons_zero, List.set_cons_succ])
    refine take_at (i := 15) (v := ?_) rfl (by kernel_rfl) (by kernel_rfl) (by kernel_rfl) (fun _ _ _ h => h) (Or.inl ⟨by rfl, ?_⟩) (by assumption) ?_
    rotate_left
    · (intro w' hSw; (try dsimp only at hSw); go_simp; (try with_reducible rfl))
    simp only [Act.put, List.setIfInBounds_toArray, List.set_cons_zero, List.set_cons_succ]
    refine wpAnyH_ready (rs := [16]) (by kernel_rfl) (by simp) ?_
    refine cons_at rfl (fun K hK => ?_) AllReadyH.nil
    go_simp
    refine hK.out _ _ ⟨(World.cell?_setCell_far _ _ _ _ hd1).trans e1, (World.cell?_setCell_far _ _ _ _ hd2).trans e2, (World.cell?_setCell_far _ _ _ _ hdb).trans e6⟩ (fun hHeld => ?_)
    clear hK K hHeld2
    (try simp only [Act.put, List.setIfInBounds_toArray, List.set_cons_zero, List.set_cons_succ])
    refine wpAnyH_done (by kernel_rfl) ?_ _
    exact hQ _ _ _ _ _ _ _ _ _ _ _ _ _ _ _ _ g2 cap2 w2 hg3 ho2 hat2 hlt2
  · go_simp
    refine hK.out _ _ ⟨d1, d2, d6⟩ (fun hHeld2 => ?_)
    clear hK K hHeld
    (try simp only [Act.put, List.setIfInBounds_toArray, List.set_cons_zero, List.set_cons_succ])
    refine wpAnyH_ready (rs := [11]) (by kernel_rfl) (by simp) ?_
    refine cons_at rfl (fun K hK => ?_) AllReadyH.nil
    go_simp
    refine hK.out _ _ ⟨d1, d2, d6⟩ (fun hHeld => ?_)
    clear hK K hHeld2
    (try simp only [Act.put, List.setIfInBounds_toArray, List.set_cons_zero, List.set_cons_succ])
    refine wpAnyH_ready (rs := [14]) (by kernel_rfl) (by simp) ?_
    refine cons_at rfl (fun K hK => ?_) AllReadyH.nil
    refine step_append_lies _ rfl (.tmp 82) (.tmp 84) 30 rfl B 3 i0 (.int .i64 0) 1 8 Tryd.underlying30 hi0' hz0 hz1 hz2 rfl (by decide) v m xs (by simp [Act.eval]) hownA ⟨w.heap.size, 0, none⟩ 1 1 [.int .i64 (u : Int)] (by simp [Act.eval]) rfl (hu1 _ hnew) (by intro u hu; simp at hu; subst hu; rfl) (by decide) (by unfold maxLen; omega) (by omega) (Nat.le_trans hB hsA) _ rfl ?_
    intro g2 cap2 w2 ho2 hg2 hat hlt2
    have hat2 : v.ownBlock = some g2 ∨ w.heap.size ≤ g2 := by rcases hat with h | h; exact .inl h; exact .inr (by rw [h]; exact hsA)
    have hg3 := hw3 w2 hg2
    have e1 := hg3.cell c1 hn1
    have e2 := hg3.cell c2 hn2
    have e6 := hg3.cell c6 hnb
    have ev := hg3.cell cv hng
    have ef := (World.frozen?_of_block (a := ⟨gn, i, none⟩) (hg3.block gn (World.block_lt_of_cell? w _ cv) hng)).trans fv
    refine hK.out _ _ ⟨e1, e2, e6⟩ (fun hHeld2 => ?_)
    clear hK K hHeld
    (try simp only [Act.put, List.setIfInBounds_toArray, List.set_cons_zero, List.set_cons_succ])
    refine take_at (i := 15) (v := ?_) rfl (by kernel_rfl) (by kernel_rfl) (by kernel_rfl) (fun _ _ _ h => h) (Or.inl ⟨by rfl, ?_⟩) (by assumption) ?_
    rotate_left
    · (intro w' hSw; (try dsimp only at hSw); go_simp; (try with_reducible rfl))
    simp only [Act.put, List.setIfInBounds_toArray, List.set_cons_zero, List.set_cons_succ]
    refine wpAnyH_ready (rs := [16]) (by kernel_rfl) (by simp) ?_
    refine cons_at rfl (fun K hK => ?_) AllReadyH.nil
    go_simp
    refine hK.out _ _ ⟨(World.cell?_setCell_far _ _ _ _ hd1).trans e1, (World.cell?_setCell_far _ _ _ _ hd2).trans e2, (World.cell?_setCell_far _ _ _ _ hdb).trans e6⟩ (fun hHeld => ?_)
    clear hK K hHeld2
    (try simp only [Act.put, List.setIfInBounds_toArray, List.set_cons_zero, List.set_cons_succ])
    refine wpAnyH_done (by kernel_rfl) ?_ _
    exact hQ _ _ _ _ _ _ _ _ _ _ _ _ _ _ _ _ g2 cap2 w2 hg3 ho2 hat2 hlt2
end Go.Proofs.YtlkojoinbogkmaaDoor
