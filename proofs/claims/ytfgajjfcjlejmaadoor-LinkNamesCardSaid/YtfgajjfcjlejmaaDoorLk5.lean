/-
  A link is made.
-/
import Derived.Test.YtfgajjfcjlejmaaDoorLk4
namespace Go.Proofs.YtfgajjfcjlejmaaDoor
set_option maxRecDepth 100000
set_option linter.unusedSimpArgs false
open Go Go.RowKit Wr
attribute [local go_sem] Oper.semAt_some

/-- What New leaves. -/
def NewP (w : World) (self peer : Int) (ep b c : Nat) (x : Ending) (w' : World) : Prop :=
  ∃ o m, x = .returned (.tuple #[.pointer (some ⟨o, 0, none⟩), .int .i64 0]) ∧ Below w.heap.size w w' ∧ w.heap.size ≤ o ∧ w.heap.size ≤ m ∧ ∀ T : Nat → Prop, (∀ k, T k → k < w.heap.size) → LnkAt w' (fun k => T k ∨ (k = o ∨ k = m)) (fun k => k = o ∨ k = m) o 0 (Lk.newS self peer ep b c)

set_option maxHeartbeats 2000000 in
theorem new_ok (w : World) {self peer : Int} {ep b c : Nat} (hr : robs self peer ep = true) (hk : okR b c = true) :
    Calls Tryd.prog 9 #[.int .i64 self, .int .i64 peer, .int .u32 (ep : Nat), ruV b c] w (NewP w self peer ep b c) := by
  obtain ⟨P, hP⟩ : ∃ P : Ending → World → Prop, P = NewP w self peer ep b c := ⟨_, rfl⟩
  have HP : Hid (∀ (W : World) (m : Nat), Below w.heap.size w W → w.heap.size ≤ m → W.heap[m]? = some (.map #[] 0) → P (.returned (.tuple #[.pointer (some ⟨W.heap.size, 0, none⟩), .int .i64 0])) (W.alloc (.cells #[.int .i64 self, .int .i64 peer, .int .u32 (ep : Nat), .int .u32 0, .int .u64 (b : Nat), .int .u64 (c : Nat), .int .u32 0, .slice none 0 0, .int .u32 0, .int .u64 0, .map (some m), .bool false, .int .u64 0, .int .i64 0] 102))) := by
    rw [hP]
    intro W m h1 h2 h3
    have hm := blk_lt h3
    have hz := h1.size
    have hk1 : Below W.heap.size W (W.alloc (.cells #[.int .i64 self, .int .i64 peer, .int .u32 (ep : Nat), .int .u32 0, .int .u64 (b : Nat), .int .u64 (c : Nat), .int .u32 0, .slice none 0 0, .int .u32 0, .int .u64 0, .map (some m), .bool false, .int .u64 0, .int .i64 0] 102)) := (Below.refl _ W).alloc (Nat.le_refl _) _
    refine ⟨_, m, rfl, h1.trans (hk1.mono hz), hz, h2, fun T hT => ⟨⟨.slice none 0 0, [], m, rfl, World.alloc_heap_new W _, OpnAt.empty _ _, ErlAt.empty ((hk1.block m hm).trans h3), .inr rfl, by omega, fun g hg => (by cases hg)⟩, .inl rfl, fun k hk => .inr hk, fun k hk => ?_⟩⟩
    simp only [World.size_alloc]
    rcases hk with hk | rfl | rfl
    · have := hT k hk; omega
    · omega
    · omega
  rw [← hP]
  clear hP
  unfold robs at hr
  simp only [Bool.and_eq_true] at hr
  obtain ⟨⟨⟨h1, h2⟩, h3⟩, h4⟩ := hr
  have h5 : (self == peer) = false := by simpa using h3
  have h6 : ((ep : Int) == 0) = false := by
    have : ep ≠ 0 := by simpa using h4
    have : ¬ (ep : Int) = 0 := by omega
    simpa using this
  have he : erI b c = 0 := by unfold erI; rw [hk]; rfl
  have HK := Lib.hid he
  have HL : Hid (∀ W : World, (Below w.heap.size w W ∧ W.heap[w.heap.size]? = some (.cells #[.int .u64 (b : Nat), .int .u64 (c : Nat)] 25 (0, 0))) → W.cell? ⟨w.heap.size, 0, none⟩ = some (.int .u64 (b : Nat)) ∧ W.cell? ⟨w.heap.size, 1, none⟩ = some (.int .u64 (c : Nat))) := fun W hW => atwo hW.2
  have HBG : Hid (∀ W : World, (Below w.heap.size w W ∧ W.heap[w.heap.size]? = some (.cells #[.int .u64 (b : Nat), .int .u64 (c : Nat)] 25 (0, 0))) → Calls Tryd.prog 33 #[] W fun e W' => ∃ m, e = .returned (sesV m) ∧ (Below w.heap.size w W' ∧ W'.heap[w.heap.size]? = some (.cells #[.int .u64 (b : Nat), .int .u64 (c : Nat)] 25 (0, 0))) ∧ w.heap.size ≤ m ∧ W'.heap[m]? = some (.map #[] 0)) := by
    intro W hW
    refine (begun_any W).mono ?_
    rintro e w' ⟨m, rfl, hb, hm, hz⟩
    exact ⟨m, rfl, ⟨hW.1.trans (hb.mono hW.1.size), (hb.block _ (blk_lt hW.2)).trans hW.2⟩, Nat.le_trans hW.1.size hm, hz⟩
  have HFIN : Hid (∀ (W : World) (m : Nat), (Below w.heap.size w W ∧ W.heap[w.heap.size]? = some (.cells #[.int .u64 (b : Nat), .int .u64 (c : Nat)] 25 (0, 0))) → w.heap.size ≤ m → W.heap[m]? = some (.map #[] 0) → (Below w.heap.size w (W.alloc (.cells #[.int .i64 self, .int .i64 peer, .int .u32 (ep : Nat), .int .u32 0, .int .u64 (b : Nat), .int .u64 (c : Nat), .int .u32 0, .slice none 0 0, .int .u32 0, .int .u64 0, .map (some m), .bool false, .int .u64 0, .int .i64 0] 102)) ∧ (W.alloc (.cells #[.int .i64 self, .int .i64 peer, .int .u32 (ep : Nat), .int .u32 0, .int .u64 (b : Nat), .int .u64 (c : Nat), .int .u32 0, .slice none 0 0, .int .u32 0, .int .u64 0, .map (some m), .bool false, .int .u64 0, .int .i64 0] 102)).heap[w.heap.size]? = some (.cells #[.int .u64 (b : Nat), .int .u64 (c : Nat)] 25 (0, 0))) ∧ P (.returned (.tuple #[.pointer (some ⟨W.heap.size, 0, none⟩), .int .i64 0])) (W.alloc (.cells #[.int .i64 self, .int .i64 peer, .int .u32 (ep : Nat), .int .u32 0, .int .u64 (b : Nat), .int .u64 (c : Nat), .int .u32 0, .slice none 0 0, .int .u32 0, .int .u64 0, .map (some m), .bool false, .int .u64 0, .int .i64 0] 102))) :=
    fun W m h1 h2 h3 => ⟨⟨h1.1.alloc h1.1.size _, (Below.heap_alloc _ _ _ (blk_lt h1.2)).trans h1.2⟩, HP.out W m h1.1 h2 h3⟩
  have HS0 : Hid (∀ V : World, V = (w.alloc (.cells #[.int .u64 (b : Nat), .int .u64 (c : Nat)] 25)).alloc (ruO b c) → (Below w.heap.size w V.drew ∧ V.drew.heap[w.heap.size]? = some (.cells #[.int .u64 (b : Nat), .int .u64 (c : Nat)] 25 (0, 0)))) := by
    rintro V rfl
    refine ⟨(((Below.refl _ w).alloc (Nat.le_refl _) _).alloc (by simp) _).drew, ?_⟩
    show ((w.alloc _).alloc _).heap[_]? = _
    rw [Below.heap_alloc _ _ _ (by simp)]; exact World.alloc_heap_new w _
  clear h3 h4 he hk HP
  go_enter Tryd.func9, Tryd.ntmps9
  go_wp2_with (first | ((with_reducible refine (lisRobot_any _ self).mono ?_); rintro e w' ⟨rfl, rfl⟩; rw [h1]) | ((with_reducible refine (lisRobot_any _ peer).mono ?_); rintro e w' ⟨rfl, rfl⟩; rw [h2]) | ((with_reducible refine (acheck_any _ b c).mono ?_); rintro e w' ⟨rfl, rfl⟩; rw [HK.out]))
  have hb0 := HS0.out _ rfl
  refine wp_region_held_drew (S := fun W => (Below w.heap.size w W ∧ W.heap[w.heap.size]? = some (.cells #[.int .u64 (b : Nat), .int .u64 (c : Nat)] 25 (0, 0)))) (by kernel_rfl) hb0 (fun hHeld => ?_)
  simp only [List.size_toArray, List.length_cons, List.length_nil, Nat.reduceAdd, Array.replicate_succ, Array.replicate_zero, List.push_toArray, List.nil_append, List.cons_append, List.append_toArray]
  refine take_op (i := 0) (v := ?_) rfl (by kernel_rfl) (by kernel_rfl) (by kernel_rfl) (fun _ _ _ h => h) (Or.inl ⟨by rfl, ?_⟩) (by assumption) ?_
  rotate_left
  · (intro w' hSw; (try dsimp only at hSw); go_simp; (try with_reducible rfl))
  simp only [Act.put, List.setIfInBounds_toArray, List.set_cons_zero, List.set_cons_succ]
  refine take_op (i := 1) (v := ?_) rfl (by kernel_rfl) (by kernel_rfl) (by kernel_rfl) (fun _ _ _ h => h) (Or.inl ⟨by rfl, ?_⟩) (by assumption) ?_
  rotate_left
  · (intro w' hSw; (try dsimp only at hSw); go_simp; (try with_reducible rfl))
  simp only [Act.put, List.setIfInBounds_toArray, List.set_cons_zero, List.set_cons_succ]
  refine take_op (i := 2) (v := ?_) rfl (by kernel_rfl) (by kernel_rfl) (by kernel_rfl) (fun _ _ _ h => h) (Or.inl ⟨by rfl, ?_⟩) (by assumption) ?_
  rotate_left
  · (intro w' hSw; (try dsimp only at hSw); go_simp; (try with_reducible rfl))
  simp only [Act.put, List.setIfInBounds_toArray, List.set_cons_zero, List.set_cons_succ]
  refine take_op (i := 3) (v := ?_) rfl (by kernel_rfl) (by kernel_rfl) (by kernel_rfl) (fun _ _ _ h => h) (Or.inl ⟨by rfl, ?_⟩) (by assumption) ?_
  rotate_left
  · (intro w' hSw; obtain ⟨l0, l1⟩ := HL.out _ hSw; go_simp; (try with_reducible rfl))
  simp only [Act.put, List.setIfInBounds_toArray, List.set_cons_zero, List.set_cons_succ]
  refine wpAnyH_ready (rs := [4]) (by kernel_rfl) (by simp) ?_
  refine cons_op rfl (fun K hK => ?_) AllReadyH.nil
  go_simp
  refine (HBG.out _ hb0).mono ?_
  rintro e w4 ⟨m, rfl, hs4, hm4, hz4⟩
  (try go_wp2_with fail)
  refine hK.out _ _ hs4 (fun hHeld => ?_)
  clear hK K
  (try simp only [Act.put, List.setIfInBounds_toArray, List.set_cons_zero, List.set_cons_succ])
  refine take_op (i := 5) (v := ?_) rfl (by kernel_rfl) (by kernel_rfl) (by kernel_rfl) (fun _ _ _ h => h) (Or.inl ⟨by rfl, ?_⟩) (by assumption) ?_
  rotate_left
  · (intro w' hSw; (try dsimp only at hSw); go_simp; (try with_reducible rfl))
  simp only [Act.put, List.setIfInBounds_toArray, List.set_cons_zero, List.set_cons_succ]
  refine wpAnyH_ready (rs := [6]) (by kernel_rfl) (by simp) ?_
  refine cons_op rfl (fun K hK => ?_) AllReadyH.nil
  go_simp
  refine hK.out _ _ (HFIN.out _ _ hs4 hm4 hz4).1 (fun hHeld => ?_)
  clear hK K
  (try simp only [Act.put, List.setIfInBounds_toArray, List.set_cons_zero, List.set_cons_succ])
  refine take_op (i := 7) (v := ?_) rfl (by kernel_rfl) (by kernel_rfl) (by kernel_rfl) (fun _ _ _ h => h) (Or.inl ⟨by rfl, ?_⟩) (by assumption) ?_
  rotate_left
  · (intro w' hSw; (try dsimp only at hSw); go_simp; (try with_reducible rfl))
  simp only [Act.put, List.setIfInBounds_toArray, List.set_cons_zero, List.set_cons_succ]
  refine take_op (i := 8) (v := ?_) rfl (by kernel_rfl) (by kernel_rfl) (by kernel_rfl) (fun _ _ _ h => h) (Or.inl ⟨by rfl, ?_⟩) (by assumption) ?_
  rotate_left
  · (intro w' hSw; (try dsimp only at hSw); go_simp; (try with_reducible rfl))
  simp only [Act.put, List.setIfInBounds_toArray, List.set_cons_zero, List.set_cons_succ]
  refine wpAnyH_done (by kernel_rfl) ?_ _
  have HFF := Lib.hid (HFIN.out _ _ hs4 hm4 hz4).2
  clear HFIN hs4 hm4 hz4 hb0 HBG HL HS0
  go_wp2
  first | exact HFF.out | (refine bodyPost_ret (v := .tuple #[.pointer (some ⟨w4.heap.size, 0, none⟩), .int .i64 0]) (by simp [results, Tryd.results9, go_sem]) rfl HFF.out)
end Go.Proofs.YtfgajjfcjlejmaaDoor
