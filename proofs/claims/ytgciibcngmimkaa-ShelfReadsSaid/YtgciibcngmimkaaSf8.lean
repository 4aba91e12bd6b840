/-
  shelf.Copy.
-/
import Derived.Test.YtgciibcngmimkaaSf7
import Derived.Test.YtgciibcngmimkaaRnd
import Derived.Test.YtgciibcngmimkaaTk
import Derived.Deep.RegionHeld3
namespace Go.Proofs.Ytgciibcngmimkaa
set_option maxRecDepth 100000
set_option linter.unusedSimpArgs false
open Go Go.RowKit Sf
attribute [local go_sem] Oper.semAt_some

theorem wpIn_held_rnd {l n id : Nat} {P : Program} {Q : Exit → Act → World → Prop} {a : Act} {w : World} {ls : List Oper} {S : World → Prop} (hm : P.follows .mixedOrders = true) (hnd : noDefer ls.toArray = true) (hS : S w.drew)
    (h : S w.drew → wpAnyH P .any ls.toArray (Calm Q) S ls.toArray.size (Array.replicate ls.toArray.size false) a w.drew) : (Code.region id ls.toArray true).wpIn (Fence.wide.inRound l) n P Q a w :=
  wpIn_region_any hm (wpAnyIn_of_any hnd _ _ _ _ (wpAny_of_held _ _ _ _ (h hS)))
theorem heap4 (w : World) (o1 o2 o3 o4 : Obj) : ((((w.alloc o1).alloc o2).alloc o3).alloc o4).heap[w.heap.size]? = some o1 ∧ ((((w.alloc o1).alloc o2).alloc o3).alloc o4).heap[w.heap.size + 1]? = some o2 ∧ ((((w.alloc o1).alloc o2).alloc o3).alloc o4).heap[w.heap.size + 1 + 1]? = some o3 ∧ ((((w.alloc o1).alloc o2).alloc o3).alloc o4).heap[w.heap.size + 1 + 1 + 1]? = some o4 := by
  refine ⟨?_, ?_, ?_, ?_⟩
  · rw [Below.heap_alloc _ _ _ (by simp only [World.size_alloc]; omega), Below.heap_alloc _ _ _ (by simp only [World.size_alloc]; omega), Below.heap_alloc _ _ _ (by simp only [World.size_alloc]; omega)]
    exact World.alloc_heap_new w _
  · rw [Below.heap_alloc _ _ _ (by simp only [World.size_alloc]; omega), Below.heap_alloc _ _ _ (by simp only [World.size_alloc]; omega)]
    have := World.alloc_heap_new (w.alloc o1) o2
    rwa [World.size_alloc] at this
  · rw [Below.heap_alloc _ _ _ (by simp only [World.size_alloc]; omega)]
    have := World.alloc_heap_new ((w.alloc o1).alloc o2) o3
    rwa [World.size_alloc, World.size_alloc] at this
  · have := World.alloc_heap_new (((w.alloc o1).alloc o2).alloc o3) o4
    rwa [World.size_alloc, World.size_alloc, World.size_alloc] at this

theorem copy_none (w : World) : Calls Try.prog 22 #[.pointer none] w fun e w' => e = .returned (.pointer none) ∧ w = w' := by
  go_enter Try.func22, Try.ntmps22
  go_wp2
  go_ret
  exact ⟨rfl, rfl⟩

/-- What a copy is. -/
def CpQ (w : World) (M : List Ent) (e : Ending) (w' : World) : Prop :=
  ∃ b' m', e = .returned (.pointer (some ⟨b', 0, none⟩)) ∧ ShAt w' b' (some m') M.length M ∧ w.heap.size ≤ b' ∧ w.heap.size ≤ m' ∧ Below w.heap.size w w'
/-- The copy behind some records. -/
structure CpI (w : World) (M : List Ent) (pre : List (Ent × Value)) (W : World) : Prop where
  below : Below w.heap.size w W
  q : W.heap[w.heap.size + 1 + 1]? = some (.cells #[.pointer (some ⟨w.heap.size + 1, 0, none⟩)] 24 (0, 0))
  sh : ShAt W (w.heap.size + 1) (some w.heap.size) pre.length (pre.map (·.1))
  size : w.heap.size + 4 ≤ W.heap.size
  pre : pre.map (·.1) <+: M
section
variable {w : World} {M : List Ent} {pre : List (Ent × Value)} {W W' : World}
theorem CpI.from : OwnFrom (w.heap.size + 4) (CpI w M) := by
  intro pre W W' row h hg hr
  have hk : ∀ k, k < w.heap.size + 4 → W'.heap[k]? = W.heap[k]? := fun k hk => hg.block k (Nat.lt_of_lt_of_le hk h.size) (fun e => by have := (hr k e.symm).1; omega)
  refine ⟨h.below.trans ⟨hg.os, hg.tape, hg.output, hg.size, fun k hk' => hk k (by omega)⟩, (hk _ (by omega)).trans h.q, h.sh.blocks (X := fun k => row = some k) (fun k h1 h2 => hg.block k h1 (fun e => h2 e.symm)) (fun k hk' e => ?_) (fun k cur f hc e => ?_), Nat.le_trans h.size hg.size, h.pre⟩
  · have := (hr k e).1
    rcases hk' with e2 | e2
    · omega
    · injection e2 with e2; omega
  · obtain ⟨_, o, ho, hc'⟩ := hr k e
    rw [hc] at ho
    cases ho
    cases hc'
theorem CpI.take (h : CpI w M pre W) (ht : Kept (fun _ => False) W W') : CpI w M pre W' :=
  ⟨h.below.trans (ht.below (fun _ h => h.elim) (by have := h.size; omega)), (ht.block _ (by have := h.size; omega) id).trans h.q, h.sh.kept ht (fun _ _ => id) (No8.none _), Nat.le_trans h.size ht.size, h.pre⟩
end
/-- One more. -/
theorem Ok.sub {M L : List Ent} (h : Ok M) (hl : L <+: M) : Ok L := ⟨h.srt.sublist hl.sublist, fun e he => h.each e (hl.subset he), Nat.le_trans hl.length_le h.len⟩
theorem put_last {L : List Ent} {e : Ent} (h : (L ++ [e]).Pairwise (fun a b => a.1 < b.1)) : putM L e.1 e.2 = L ++ [e] := by
  have h3 := (List.pairwise_append.1 h).2.2
  unfold putM
  rw [List.filter_eq_self.2 (fun x hx => by have := h3 x hx e (by simp); simpa using this), List.filter_eq_nil_iff.2 (fun x hx => by have := h3 x hx e (by simp); simp; omega)]
theorem CpI.snoc {w : World} {M : List Ent} {pre : List (Ent × Value)} {W : World} {x : Ent × Value} (h : CpI w M pre W) (hM : Ok M) (hp : pre.map (·.1) ++ [x.1] <+: M) (hv : R8 W x.2 x.1.2) :
    ∃ W', (Instr.mapUpdate 25 (.map (some w.heap.size)) (.int .i64 (x.1.1 : Int)) x.2).run Try.prog W = .ok () W' ∧ CpI w M (pre ++ [x]) W' ∧ Kept (fun k => k = w.heap.size) W W' := by
  have hok := Ok.sub hM hp
  have hE := hok.each x.1 (by simp)
  have hl := hp.length_le
  have hM2 := hM.len
  have e1 := put_last hok.srt
  have e2 : (pre ++ [x]).map (·.1) = pre.map (·.1) ++ [x.1] := by simp
  obtain ⟨W', hr, h1, hk⟩ := put_step h.sh (by simp at hl; omega) rfl (p := x.1.1) (by have := hE.k; omega) hv (by rw [e1]; exact hok)
  rw [e1] at h1
  refine ⟨W', hr, ⟨h.below.trans (hk.below (fun k hk => by rw [hk]; exact Nat.le_refl _) (by have := h.size; omega)), ?_, ?_, Nat.le_trans h.size hk.size, by rw [e2]; exact hp⟩, hk⟩
  · exact (hk.block _ (by have := h.size; omega) (by omega)).trans h.q
  · rw [e2]
    have := h1
    simpa using this

set_option maxHeartbeats 4000000 in
theorem copy_any {w : World} {b N : Nat} {mo : Option Nat} {M : List Ent} (h : ShAt w b mo N M) :
    Calls Try.prog 22 #[.pointer (some ⟨b, 0, none⟩)] w (CpQ w M) := by
  have hmm := @run_makeMap Try.prog
  refine (callsIn_wide (n := 9)).1 ?_
  refine callsIn_of_wp_marks Try.func22 rfl trivial ?_ rfl
  simp only [Try.ntmps22, List.size_toArray, List.length_cons, List.length_nil, Nat.reduceAdd, Nat.reduceSub, Array.replicate_succ, Array.replicate_zero, List.push_toArray, List.append_toArray, List.nil_append, List.cons_append]
  have HH := Lib.hid h
  have hbw := h.lt
  have hmw := fun k hk => h.mlt (k := k) hk
  have HMW := Lib.hid hmw
  clear h hmw
  gi_wp2_with fail
  refine ⟨trivial, (callsIn_wide.2 (told_any _ _)).mono ?_⟩
  rintro x W0 ⟨rfl, hW0⟩
  have hz : W0.heap.size = w.heap.size + 4 := by rw [hW0]; simp
  have hk0 : Kept (fun _ => False) w W0 := by rw [hW0]; exact ((((Kept.refl _ w).alloc _).alloc _).alloc _).alloc _
  obtain ⟨b1, b2, b3, b4⟩ := heap4 w (.map #[] 0) (.cells #[.map (some w.heap.size)] 27) (.cells #[.pointer (some ⟨w.heap.size + 1, 0, none⟩)] 24) (.cells #[.pointer (some ⟨b, 0, none⟩)] 24)
  rw [← hW0] at b1 b2 b3 b4
  have hsz1 : (((w.alloc (.map #[] 0)).alloc (.cells #[.map (some w.heap.size)] 27)).alloc (.cells #[.pointer (some ⟨w.heap.size + 1, 0, none⟩)] 24)).heap.size = w.heap.size + 1 + 1 + 1 := by simp
  rw [hsz1]
  have hmM : MapM W0 w.heap.size 0 [] := by
    rw [hW0]
    exact (MapM.made w).kept (((Kept.refl (fun _ => False) _).alloc _).alloc _ |>.alloc _) id (No8.none _)
  clear hW0 hsz1
  have hb0 : Below w.heap.size w W0 := hk0.below (fun _ h => h.elim) (Nat.le_refl _)
  have h0 := HH.out.below hb0
  obtain ⟨X, hX⟩ : ∃ X : Nat → Prop, X = fun k => k = w.heap.size := ⟨_, rfl⟩
  have hTells := told_w (9 - 1) (by omega) h0 b4 (X := X) (fun k hk e => by
    rw [hX] at e
    rcases hk with hk | hk
    · have := HMW.out k hk; omega
    · omega) (fun k cur f hc e => by
    rw [hX] at e
    rw [e, b1] at hc
    cases hc)
  have hI0 : CpI w M [] W0 := ⟨hb0, b3, ⟨b2, fun e => (by cases e), fun m e => (by cases e; exact hmM), Ok.nil⟩, by omega, List.nil_prefix⟩
  have hXk : ∀ k, X k → k = w.heap.size := fun k hk => by rw [hX] at hk; exact hk
  have hXw : ¬ X (w.heap.size + 1 + 1) ∧ ¬ X (w.heap.size + 1) := ⟨fun e => by have := hXk _ e; omega, fun e => by have := hXk _ e; omega⟩
  have hXw0 : X w.heap.size := by rw [hX]
  have hOk := HH.out.ok
  clear hX h0
  obtain ⟨cM, hcM⟩ : ∃ cM, cM = M.length := ⟨_, rfl⟩
  gi_wp2_with fail
  refine range_w (by omega) (gf := 36) (lb := #[.pointer (some ⟨w.heap.size + 1 + 1 + 1, 0, none⟩)]) rfl (enters_of Try.func36 (by kernel_rfl) rfl)
    (encs := enR) (fun _ => rfl) hTells (Below.refl _ _)
    (fun A C ht => ⟨ht.size, fun k o _ ho hc => (ht.block k (blk_lt ho) id).trans ho⟩) (fun h k => h.trans k)
    (fun W l' o o' hl' h1 h2 => KpF.put W l' o o' hl' h1 h2)
    (CpI w M) (fun _ _ _ => False) (by rw [hz]; exact CpI.from) (fun c xs A C row h _ _ => h.elim) (fun xs A C h ht => h.take ht) hI0
    (fun pre x a' W => ∃ bk, W0.heap.size ≤ bk ∧ W.heap[bk]? = some (.cells #[.int .i64 ((x.1.1 / 65536 : Nat) : Int), .int .i64 ((x.1.1 % 65536 : Nat) : Int), x.2] 32 (0, 0)) ∧ (pre.map (·.1) ++ [x.1] <+: M ∧ R8 W x.2 x.1.2) ∧ a' = { tmps := #[.pointer (some ⟨b, 0, none⟩), undef, .pointer none, .pointer (some ⟨w.heap.size + 1 + 1, 0, none⟩), .pointer (some ⟨bk, 0, none⟩), .pointer (some ⟨b, 0, none⟩), .bool false, .map (some w.heap.size), .agg #[.map (some w.heap.size)], .pointer (some ⟨w.heap.size + 1, 0, none⟩), .pointer (some ⟨b, 0, none⟩), .func (.func 36) #[] #[.pointer (some ⟨w.heap.size + 1 + 1 + 1, 0, none⟩)], .agg #[.int .i64 ((x.1.1 / 65536 : Nat) : Int), .int .i64 ((x.1.1 % 65536 : Nat) : Int), x.2], undef, undef, undef, undef, undef, undef, undef, undef, undef, undef, undef, undef], defers := [] })
    ?hAx ?assign ?body ?done ?stop
  case hAx =>
    rintro pre x a' _ W W' row ⟨bk, h1, h2, ⟨h3, h4⟩, h5⟩ hg hr
    refine ⟨bk, h1, (hg.block bk (blk_lt h2) (fun e => ?_)).trans h2, ⟨h3, R8.blocks (X := fun k => row = some k) h4 (fun k h1 h2 => hg.block k h1 (fun e => h2 e.symm)) (fun k cur f hc e => ?_)⟩, h5⟩
    · obtain ⟨_, o1, h4, h5⟩ := hr bk e.symm
      rw [h2] at h4
      cases h4
      cases h5
    · obtain ⟨_, o1, h4, h5⟩ := hr k e
      rw [hc] at h4
      cases h4
      cases h5
  case assign =>
    rintro l' pre ⟨⟨p, d⟩, v⟩ Wb W K _ hI ⟨hp1, hp2, _⟩ hK
    dsimp only at hp1 hp2 hK
    obtain ⟨A, cap, rfl, _⟩ := row_bytes hp2
    have hs := hI.size
    have hW : W0.heap.size ≤ W.heap.size := by omega
    have hT : Kept (fun _ => False) W (W.alloc (.cells #[.int .i64 ((p / 65536 : Nat) : Int), .int .i64 ((p % 65536 : Nat) : Int), .slice A d.length cap] 32)) := (Kept.refl _ W).alloc _
    have HK := hK { tmps := #[.pointer (some ⟨b, 0, none⟩), undef, .pointer none, .pointer (some ⟨w.heap.size + 1 + 1, 0, none⟩), .pointer (some ⟨W.heap.size, 0, none⟩), .pointer (some ⟨b, 0, none⟩), .bool false, .map (some w.heap.size), .agg #[.map (some w.heap.size)], .pointer (some ⟨w.heap.size + 1, 0, none⟩), .pointer (some ⟨b, 0, none⟩), .func (.func 36) #[] #[.pointer (some ⟨w.heap.size + 1 + 1 + 1, 0, none⟩)], .agg #[.int .i64 ((p / 65536 : Nat) : Int), .int .i64 ((p % 65536 : Nat) : Int), .slice A d.length cap], undef, undef, undef, undef, undef, undef, undef, undef, undef, undef, undef, undef], defers := [] } _ ⟨by simp, fun k o _ ho _ => (Below.heap_alloc _ _ _ (blk_lt ho)).trans ho⟩
      (KpF.of_kept hT hW (fun _ h => h.elim) (fun _ h => h.elim)) (hI.take hT) ⟨W.heap.size, hW, World.alloc_heap_new W _, ⟨hp1, R8.kept hp2 hT (No8.none _)⟩, rfl⟩
    clear hK hI hp1 hp2 hT
    dsimp only [enR]
    generalize ((p / 65536 : Nat) : Int) = pk at *
    generalize ((p % 65536 : Nat) : Int) = pn at *
    generalize d.length = L at *
    gi_wp2
    exact HK
  case body =>
    rintro l' pre x a' W hl' hI ⟨bk, hbk, hbx, ⟨hp, hv⟩, rfl⟩
    have hE := (Ok.sub hOk hp).each x.1 (by simp)
    have hId : CpI w M pre W.drew := hI.take ((Kept.refl _ W).drew)
    have hvd : R8 W.drew x.2 x.1.2 := R8.kept hv ((Kept.refl (fun _ => False) W).drew) (No8.none _)
    obtain ⟨W', hr, hI', hk'⟩ := hId.snoc hOk hp hvd
    obtain ⟨⟨p, d⟩, v⟩ := x
    dsimp only at *
    obtain ⟨A, cap, rfl, _⟩ := row_bytes hv
    have HPl : Hid (∀ V, Calls Try.prog 27 #[.int .i64 ((p / 65536 : Nat) : Int), .int .i64 ((p % 65536 : Nat) : Int)] V fun e w' => e = .returned (.int .i64 (p : Int)) ∧ V = w') := by
      intro V
      have := place_any V (k := p / 65536) (n := p % 65536) (by have := hE.k; simp only at this; omega) (by omega)
      rw [show p / 65536 * 65536 + p % 65536 = p by omega] at this
      exact this
    obtain ⟨S, hS⟩ : ∃ S : World → Prop, S = fun V => V.cell? ⟨w.heap.size + 1 + 1, 0, none⟩ = some (.pointer (some ⟨w.heap.size + 1, 0, none⟩)) ∧ V.cell? ⟨w.heap.size + 1, 0, none⟩ = some (.map (some w.heap.size)) ∧ V.cell? ⟨bk, 0, none⟩ = some (.int .i64 ((p / 65536 : Nat) : Int)) ∧ V.cell? ⟨bk, 1, none⟩ = some (.int .i64 ((p % 65536 : Nat) : Int)) ∧ V.cell? ⟨bk, 2, none⟩ = some (.slice A d.length cap) := ⟨_, rfl⟩
    have hcell : ∀ V pre', CpI w M pre' V → V.heap[bk]? = some (.cells #[.int .i64 ((p / 65536 : Nat) : Int), .int .i64 ((p % 65536 : Nat) : Int), .slice A d.length cap] 32 (0, 0)) → S V := by
      intro V pre' hV hb
      rw [hS]
      exact ⟨by rw [blk_cell hV.q]; rfl, by rw [blk_cell hV.sh.blk]; rfl, by rw [blk_cell hb]; rfl, by rw [blk_cell hb]; rfl, by rw [blk_cell hb]; rfl⟩
    have hbkW : bk < W.heap.size := blk_lt hbx
    have HSd := Lib.hid (hcell _ _ hId hbx)
    have HSn := Lib.hid (hcell W' _ hI' ((hk'.block bk hbkW (by omega)).trans hbx))
    have HEnd : Hid (ownPostG W0.heap.size (KpF W0.heap.size X) (CpI w M) (fun _ _ _ => False) (pre ++ [((p, d), Value.slice A d.length cap)]) W .normal { tmps := #[], defers := [] } W') := by
      refine ⟨⟨hk'.size, fun k o hk ho hc => (hk'.block k (blk_lt ho) (by omega)).trans ho⟩, ?_, hI'⟩
      refine (KpF.of_kept (A := W.drew) hk' (show W0.heap.size ≤ W.heap.size by have := hI.size; omega) (fun k hk _ => by rw [hk]; exact hXw0) (fun k hk cs f e => ?_))
      obtain ⟨es, cl, e2⟩ := (hId.sh.some_ _ rfl).isMap
      rw [hk, e2] at e
      cases e
    have HS := Lib.hid hS
    clear hcell hI hId hI' hk' hp hv hvd hE hTells hI0 hS hbx
    generalize ((p / 65536 : Nat) : Int) = pk at *
    generalize ((p % 65536 : Nat) : Int) = pn at *
    generalize d.length = L at *
    gi_wp2_with fail
    refine wpIn_held_rnd (S := S) (by kernel_rfl) (by kernel_rfl) HSd.out (fun hHeld => ?_)
    simp only [List.size_toArray, List.length_cons, List.length_nil, Nat.reduceAdd, Array.replicate_succ, Array.replicate_zero, List.push_toArray, List.nil_append, List.cons_append, List.append_toArray]
    refine take_op (i := 0) (v := ?_) rfl (by kernel_rfl) (by kernel_rfl) (by kernel_rfl) (fun _ _ _ h => h) (Or.inl ⟨by rfl, ?_⟩) (by assumption) ?_
    rotate_left
    · (intro w' hSw; rw [HS.out] at hSw; go_simp; (try with_reducible rfl))
    simp only [Act.put, List.setIfInBounds_toArray, List.set_cons_zero, List.set_cons_succ]
    refine take_op (i := 1) (v := ?_) rfl (by kernel_rfl) (by kernel_rfl) (by kernel_rfl) (fun _ _ _ h => h) (Or.inl ⟨by rfl, ?_⟩) (by assumption) ?_
    rotate_left
    · (intro w' hSw; rw [HS.out] at hSw; go_simp; (try with_reducible rfl))
    simp only [Act.put, List.setIfInBounds_toArray, List.set_cons_zero, List.set_cons_succ]
    refine take_op (i := 2) (v := ?_) rfl (by kernel_rfl) (by kernel_rfl) (by kernel_rfl) (fun _ _ _ h => h) (Or.inl ⟨by rfl, ?_⟩) (by assumption) ?_
    rotate_left
    · (intro w' hSw; rw [HS.out] at hSw; go_simp; (try with_reducible rfl))
    simp only [Act.put, List.setIfInBounds_toArray, List.set_cons_zero, List.set_cons_succ]
    refine take_op (i := 3) (v := ?_) rfl (by kernel_rfl) (by kernel_rfl) (by kernel_rfl) (fun _ _ _ h => h) (Or.inl ⟨by rfl, ?_⟩) (by assumption) ?_
    rotate_left
    · (intro w' hSw; rw [HS.out] at hSw; go_simp; (try with_reducible rfl))
    simp only [Act.put, List.setIfInBounds_toArray, List.set_cons_zero, List.set_cons_succ]
    refine take_op (i := 4) (v := ?_) rfl (by kernel_rfl) (by kernel_rfl) (by kernel_rfl) (fun _ _ _ h => h) (Or.inl ⟨by rfl, ?_⟩) (by assumption) ?_
    rotate_left
    · (intro w' hSw; rw [HS.out] at hSw; go_simp; (try with_reducible rfl))
    simp only [Act.put, List.setIfInBounds_toArray, List.set_cons_zero, List.set_cons_succ]
    refine take_op (i := 5) (v := ?_) rfl (by kernel_rfl) (by kernel_rfl) (by kernel_rfl) (fun _ _ _ h => h) (Or.inl ⟨by rfl, ?_⟩) (by assumption) ?_
    rotate_left
    · (intro w' hSw; rw [HS.out] at hSw; go_simp; (try with_reducible rfl))
    simp only [Act.put, List.setIfInBounds_toArray, List.set_cons_zero, List.set_cons_succ]
    refine take_op (i := 6) (v := ?_) rfl (by kernel_rfl) (by kernel_rfl) (by kernel_rfl) (fun _ _ _ h => h) (Or.inl ⟨by rfl, ?_⟩) (by assumption) ?_
    rotate_left
    · (intro w' hSw; rw [HS.out] at hSw; go_simp; (try with_reducible rfl))
    simp only [Act.put, List.setIfInBounds_toArray, List.set_cons_zero, List.set_cons_succ]
    refine take_op (i := 7) (v := ?_) rfl (by kernel_rfl) (by kernel_rfl) (by kernel_rfl) (fun _ _ _ h => h) (Or.inl ⟨by rfl, ?_⟩) (by assumption) ?_
    rotate_left
    · (intro w' hSw; rw [HS.out] at hSw; go_simp; (try with_reducible rfl))
    simp only [Act.put, List.setIfInBounds_toArray, List.set_cons_zero, List.set_cons_succ]
    refine take_op (i := 9) (v := ?_) rfl (by kernel_rfl) (by kernel_rfl) (by kernel_rfl) (fun _ _ _ h => h) (Or.inl ⟨by rfl, ?_⟩) (by assumption) ?_
    rotate_left
    · (intro w' hSw; rw [HS.out] at hSw; go_simp; (try with_reducible rfl))
    simp only [Act.put, List.setIfInBounds_toArray, List.set_cons_zero, List.set_cons_succ]
    refine take_op (i := 10) (v := ?_) rfl (by kernel_rfl) (by kernel_rfl) (by kernel_rfl) (fun _ _ _ h => h) (Or.inl ⟨by rfl, ?_⟩) (by assumption) ?_
    rotate_left
    · (intro w' hSw; rw [HS.out] at hSw; go_simp; (try with_reducible rfl))
    simp only [Act.put, List.setIfInBounds_toArray, List.set_cons_zero, List.set_cons_succ]
    refine wpAnyH_ready (rs := [8]) (by kernel_rfl) (by simp) ?_
    refine cons_op rfl (fun K hK => ?_) AllReadyH.nil
    go_simp
    (with_reducible refine (HPl.out _).mono ?_)
    rintro e V9 ⟨rfl, rfl⟩
    refine hK.out _ _ (by assumption) (fun hHeld => ?_)
    clear hK K
    (try simp only [Act.put, List.setIfInBounds_toArray, List.set_cons_zero, List.set_cons_succ])
    refine wpAnyH_ready (rs := [11]) (by kernel_rfl) (by simp) ?_
    refine cons_op rfl (fun K hK => ?_) AllReadyH.nil
    go_simp
    refine hK.out _ _ HSn.out (fun hHeld => ?_)
    clear hK K
    (try simp only [Act.put, List.setIfInBounds_toArray, List.set_cons_zero, List.set_cons_succ])
    refine wpAnyH_done (by kernel_rfl) ?_ _
    clear hHeld
    simp only [Calm]
    gi_wp2
    exact HEnd.out
  case done =>
    rintro D xs W hD rfl hI hK
    have hI2 : CpI w (xs.map (·.1)) xs (W.putObj D (.deferred none)) := CpI.from xs W _ (some D) hI (grownBy_putObj' W D (.deferred none)) (fun r e => by cases e; exact ⟨by omega, _, hK, rfl⟩)
    have c0 : W.cell? ⟨w.heap.size + 1 + 1, 0, none⟩ = some (.pointer (some ⟨w.heap.size + 1, 0, none⟩)) := by rw [blk_cell hI.q]; rfl
    have HQ : Hid (CpQ w (xs.map (·.1)) (.returned (.pointer (some ⟨w.heap.size + 1, 0, none⟩))) (W.putObj D (.deferred none))) :=
      ⟨_, _, rfl, by have := hI2.sh; rw [List.length_map]; exact this, by omega, Nat.le_refl _, hI2.below⟩
    clear hI hI2 hTells hI0 hcM
    gi_wp2
    refine ⟨by simp, .inl ⟨_, _, rfl, run_takeDeferred hK, ?_⟩⟩
    refine ⟨_, ?_, HQ.out⟩
    exact (results_tmp (fn := Try.f22) (t := 2) rfl _ _ _)
  case stop => exact fun D c pre W hD h _ => h.elim
end Go.Proofs.Ytgciibcngmimkaa
