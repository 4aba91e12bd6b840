/-
  slices.AppendSeq, slices.Collect of records; shelf.All.
-/
import Derived.Test.YtgciibcngmimkaaSfA
namespace Go.Proofs.Ytgciibcngmimkaa
set_option maxRecDepth 100000
set_option linter.unusedSimpArgs false
open Go Go.RowKit Sf
attribute [local go_sem] Oper.semAt_some

theorem Try.infoRec3 : (Try.prog.info? 32).map (fun i => (i.zero, i.size, i.bytes)) = some (some (.agg #[.int .i64 0, .int .i64 0, .slice none 0 0]), 3, 40) := by kernel_rfl
set_option maxHeartbeats 4000000 in
theorem appendseq_any {w0 w : World} {p0 : Option Addr} {bx : Nat} {M : List Ent} (h : ShP w0 p0 M) (hb : Below w0.heap.size w0 w) (hx : w.heap[bx]? = some (.cells #[.pointer p0] 24 (0, 0))) :
    Calls Try.prog 35 #[.slice none 0 0, .func (.func 36) #[] #[.pointer (some ⟨bx, 0, none⟩)]] w (AllQ w M) := by
  obtain ⟨i0, hi, hz0, hz1, hz2⟩ := info_parts Try.infoRec3
  refine (callsIn_wide (n := 9)).1 ?_
  refine callsIn_of_wp_marks Try.func35 rfl trivial ?_ rfl
  simp only [Try.ntmps35, List.size_toArray, List.length_cons, List.length_nil, Nat.reduceAdd, Nat.reduceSub, Array.replicate_succ, Array.replicate_zero, List.push_toArray, List.append_toArray, List.nil_append, List.cons_append]
  obtain ⟨W0, hW0⟩ : ∃ W0, w.alloc (.cells #[.slice none 0 0] 22) = W0 := ⟨_, rfl⟩
  obtain ⟨q, hq⟩ : ∃ q, w.heap.size = q := ⟨_, rfl⟩
  have hz : W0.heap.size = q + 1 := by rw [← hW0, ← hq]; simp
  have hb0 : Below w.heap.size w W0 := by rw [← hW0]; exact (Below.refl _ w).alloc (Nat.le_refl _) _
  have b1 : W0.heap[q]? = some (.cells #[.slice none 0 0] 22 (0, 0)) := by rw [← hW0, ← hq]; exact World.alloc_heap_new w _
  have hbxw := blk_lt hx
  have b2 : W0.heap[bx]? = some (.cells #[.pointer p0] 24 (0, 0)) := (hb0.block _ hbxw).trans hx
  obtain ⟨X, hX⟩ : ∃ X : Nat → Prop, X = fun k => k = q := ⟨_, rfl⟩
  have hTells := told_p (9 - 1) (by omega) h (hb.trans (hb0.mono hb.size)) b2 (X := X) (fun k hk => by rw [hX] at hk; have := hb.size; omega) (fun k cur f hc e => by
    rw [hX] at e
    rw [e, b1] at hc
    injection hc with hc
    injection hc with _ h _
    exact absurd h (by decide))
  have hI0 : LsI w W0.heap.size q M (fun _ => true) [] W0 := ⟨hb0, ⟨_, [], b1, ⟨World.ownsRow_nil _ _ _ _, fun x hx => by cases hx⟩, rfl⟩, Nat.le_refl _, List.nil_prefix⟩
  have hXq : X q := by rw [hX]
  have hM := h.ok.len
  have hqw : w.heap.size ≤ q := by omega
  have hqF : q < W0.heap.size := by omega
  have hwF : w.heap.size ≤ W0.heap.size := by omega
  clear hX h hb hx
  go_simp
  gi_wp2_with fail
  try rw [hW0]
  try rw [hq]
  refine range_w (by omega) (gf := 36) (lb := #[.pointer (some ⟨bx, 0, none⟩)]) rfl (enters_of Try.func36 (by kernel_rfl) rfl)
    (encs := enR) (fun _ => rfl) hTells (Below.refl _ _)
    (fun A C ht => ⟨ht.size, fun k o _ ho hc => (ht.block k (blk_lt ho) id).trans ho⟩) (fun h k => h.trans k)
    (fun W l' o o' hl' h1 h2 => KpF.put W l' o o' hl' h1 h2)
    (LsI w W0.heap.size q M (fun _ => true)) (fun _ _ _ => False) (LsI.from hwF hqF) (fun c xs A C row h _ _ => h.elim) (fun xs A C h ht => h.take hwF hqF ht) hI0
    (fun pre x a' W => ∃ bk, W0.heap.size ≤ bk ∧ W.heap[bk]? = some (.cells #[.int .i64 ((x.1.1 / 65536 : Nat) : Int), .int .i64 ((x.1.1 % 65536 : Nat) : Int), x.2] 32 (0, 0)) ∧ (pre.map (·.1) ++ [x.1] <+: M ∧ R8 W x.2 x.1.2) ∧ a' = { tmps := #[.slice none 0 0, .func (.func 36) #[] #[.pointer (some ⟨bx, 0, none⟩)], .pointer (some ⟨q, 0, none⟩), undef, .slice none 0 0, .pointer (some ⟨bk, 0, none⟩), .func (.func 36) #[] #[.pointer (some ⟨bx, 0, none⟩)], .agg #[.int .i64 ((x.1.1 / 65536 : Nat) : Int), .int .i64 ((x.1.1 % 65536 : Nat) : Int), x.2], undef, undef, undef, undef, undef], defers := [] })
    ?hAx ?assign ?body ?done ?stop
  case hAx =>
    rintro pre x a' _ W W' row ⟨bk, h1, h2, ⟨h3, h4⟩, h5⟩ hg hr
    refine ⟨bk, h1, (hg.block bk (blk_lt h2) (fun e => ?_)).trans h2, ⟨h3, R8.blocks (X := fun k => row = some k) h4 (fun k h1 h2 => hg.block k h1 (fun e => h2 e.symm)) (fun k cur f hc e => ?_)⟩, h5⟩
    · obtain ⟨_, o1, h4, h5⟩ := hr bk e.symm
      rw [h2] at h4
      cases h4
      cases h5
    · obtain ⟨_, o1, h4, h5⟩ := hr k e
      rw [hc] at h4
      cases h4
      cases h5
  case assign =>
    rintro l' pre ⟨⟨p, d⟩, v⟩ Wb W K hIb hI ⟨hp1, hp2, hp3, hp4⟩ hK
    dsimp only at hp1 hp2 hK
    obtain ⟨A, cap, rfl, _⟩ := row_bytes hp2
    have hs := hI.size
    have hT : Kept (fun _ => False) W (W.alloc (.cells #[.int .i64 ((p / 65536 : Nat) : Int), .int .i64 ((p % 65536 : Nat) : Int), .slice A d.length cap] 32)) := (Kept.refl _ W).alloc _
    have HK := hK { tmps := #[.slice none 0 0, .func (.func 36) #[] #[.pointer (some ⟨bx, 0, none⟩)], .pointer (some ⟨q, 0, none⟩), undef, .slice none 0 0, .pointer (some ⟨W.heap.size, 0, none⟩), .func (.func 36) #[] #[.pointer (some ⟨bx, 0, none⟩)], .agg #[.int .i64 ((p / 65536 : Nat) : Int), .int .i64 ((p % 65536 : Nat) : Int), .slice A d.length cap], undef, undef, undef, undef, undef], defers := [] } _ ⟨by simp, fun k o _ ho _ => (Below.heap_alloc _ _ _ (blk_lt ho)).trans ho⟩
      (KpF.of_kept hT hs (fun _ h => h.elim) (fun _ h => h.elim)) (hI.take (by omega) (by omega) hT) ⟨W.heap.size, hs, World.alloc_heap_new W _, ⟨hp1, R8.kept hp2 hT (No8.none _)⟩, rfl⟩
    clear hK hI hIb hp1 hp2 hp3 hp4 hT
    dsimp only [enR]
    generalize ((p / 65536 : Nat) : Int) = pk at *
    generalize ((p % 65536 : Nat) : Int) = pn at *
    generalize d.length = L at *
    gi_wp2
    exact HK
  case body =>
    rintro l' pre x a' W hl' hI ⟨bk, hbk, hbx, ⟨hp, hv⟩, rfl⟩
    obtain ⟨v1, xs, h1, h2, h3⟩ := hI.q
    have hWs := hI.size
    have hlen : xs.length ≤ 4096 := by
      have e := congrArg List.length h3
      rw [List.length_map] at e
      have := List.length_filter_le (fun _ : Ent => true) (pre.map (·.1))
      have := hp.length_le
      simp only [List.length_append] at *
      omega
    have c5 : W.cell? ⟨q, 0, none⟩ = some v1 := by rw [blk_cell h1]; rfl
    have HN : Hid (∀ W2 v', (W.alloc (.cells #[.int .i64 ((x.1.1 / 65536 : Nat) : Int), .int .i64 ((x.1.1 % 65536 : Nat) : Int), x.2] 32)).grownBy W2 v1.ownBlock → W2.ownsRow W0.heap.size 32 3 v' (xs.length + 1) (csR xs ++ [.int .i64 ((x.1.1 / 65536 : Nat) : Int), .int .i64 ((x.1.1 % 65536 : Nat) : Int), x.2]) →
        (W2.cell? ⟨q, 0, none⟩ = some v1 ∧ W2.frozen? ⟨q, 0, none⟩ = false) ∧ ownPostG W0.heap.size (KpF W0.heap.size X) (LsI w W0.heap.size q M (fun _ => true)) (fun _ _ _ => False) (pre ++ [x]) W .normal { tmps := #[], defers := [] } (W2.setCell ⟨q, 0, none⟩ v')) :=
      fun W2 v' hg ho => LsI.snoc rfl hqw hqF hXq hI h1 h2 h3 hp rfl hv ((Below.refl _ _).alloc (Nat.le_refl _) _) hg ho
    have HV := Lib.hid h2.1
    have HNe := Lib.hid (World.news_of_block (World.alloc_heap_new W (.cells #[.int .i64 ((x.1.1 / 65536 : Nat) : Int), .int .i64 ((x.1.1 % 65536 : Nat) : Int), x.2] 32)))
    have HWs := Lib.hid hWs
    have HL := Lib.hid hlen
    obtain ⟨⟨p, d⟩, v⟩ := x
    dsimp only at *
    obtain ⟨A, cap, rfl, _⟩ := row_bytes hv
    have q0 : W.cell? ⟨bk, 0, none⟩ = some (.int .i64 ((p / 65536 : Nat) : Int)) := by rw [blk_cell hbx]; rfl
    have q1 : W.cell? ⟨bk, 1, none⟩ = some (.int .i64 ((p % 65536 : Nat) : Int)) := by rw [blk_cell hbx]; rfl
    have q2 : W.cell? ⟨bk, 2, none⟩ = some (.slice A d.length cap) := by rw [blk_cell hbx]; rfl
    clear h1 h2 h3 hI hp hv hbx hTells hI0 hWs hlen hz b1 b2 hb0
    generalize ((p / 65536 : Nat) : Int) = pk at *
    generalize ((p % 65536 : Nat) : Int) = pn at *
    generalize d.length = L at *
    generalize csR xs = ys at *
    generalize xs.length = N at *
    gi_wp2_with (gi_at_builtin; refine wpListIn_append_own_at _ rfl _ _ 22 rfl W0.heap.size 32 i0 (.agg #[.int .i64 0, .int .i64 0, .slice none 0 0]) 3 40 Try.underlying22 hi hz0 hz1 hz2 rfl (by decide) v1 N ys rfl (HV.out.alloc _) ⟨W.heap.size, 0, none⟩ 1 1 _ rfl rfl HNe.out (by intro u hu; simp at hu; rcases hu with rfl | rfl | rfl <;> rfl) (by unfold maxLen; have := HL.out; omega) (by have := HL.out; omega) (by simp; have := HWs.out; omega) ?_; intro v' W2 hown' hgrow _ hat; obtain ⟨g', cap', rfl⟩ := ownsRow_succ hown'; obtain ⟨⟨hq1, hq2⟩, hq3⟩ := HN.out _ _ hgrow hown'; have HZ := Lib.hid hq3; clear hown' hgrow hq3 hat)
    exact HZ.out
  case done =>
    rintro D xs W hD rfl hI hK
    have hI2 : LsI w W0.heap.size q (xs.map (·.1)) (fun _ => true) xs (W.putObj D (.deferred none)) := LsI.from hwF hqF xs W _ (some D) hI (grownBy_putObj' W D (.deferred none)) (fun r e => by cases e; exact ⟨hD, _, hK, rfl⟩)
    obtain ⟨v, ys, h1, h2, h3⟩ := hI.q
    have c0 : W.cell? ⟨q, 0, none⟩ = some v := by rw [blk_cell h1]; rfl
    have HQ : Hid (AllQ w (xs.map (·.1)) (.returned v) (W.putObj D (.deferred none))) := by
      obtain ⟨v2, ys2, h4, h5, h6⟩ := hI2.q
      have hsame : (W.putObj D (.deferred none)).heap[q]? = W.heap[q]? := World.putObj_heap_other (by omega)
      rw [hsame, h1] at h4
      have : v = v2 := by simpa using h4
      subst this
      exact ⟨v, ys2, rfl, by rw [h6]; simp, ⟨row_base h5.1 (by omega), h5.2⟩, hI2.below⟩
    clear hI hI2 hTells hI0 h1 h2 h3
    gi_wp2
    refine ⟨by simp, .inl ⟨_, _, rfl, run_takeDeferred hK, ?_⟩⟩
    refine ⟨_, ?_, HQ.out⟩
    exact (results_tmp (fn := Try.f35) (t := 4) rfl _ _ _)
  case stop => exact fun D c pre W hD h _ => h.elim
theorem all_any {w : World} {p0 : Option Addr} {M : List Ent} (h : ShP w p0 M) : Calls Try.prog 16 #[.pointer p0] w (AllQ w M) := by
  have hb : Below w.heap.size w (w.alloc (.cells #[.pointer p0] 24)) := (Below.refl _ w).alloc (Nat.le_refl _) _
  have HA := Lib.hid (appendseq_any h hb (World.alloc_heap_new w _))
  have HB := Lib.hid hb
  have HC : Hid (Calls Try.prog 30 #[.func (.func 36) #[] #[.pointer (some ⟨w.heap.size, 0, none⟩)]] (w.alloc (.cells #[.pointer p0] 24)) (AllQ w M)) := by
    clear h hb
    go_enter Try.func30, Try.ntmps30
    go_wp2_with fail
    (with_reducible refine HA.out.mono ?_)
    rintro e W2 ⟨v, xs, rfl, h1, h2, h3⟩
    have HF : Hid (AllQ w M (.returned v) W2) := ⟨v, xs, rfl, h1, ⟨row_base h2.1 (by simp), h2.2⟩, HB.out.trans (h3.mono (by simp))⟩
    clear h1 h2 h3
    go_wp2
    go_ret
    exact HF.out
  clear h hb HA HB
  go_enter Try.func16, Try.ntmps16
  go_wp2_with fail
  refine (told_any _ _).mono ?_
  rintro e W1 ⟨rfl, rfl⟩
  go_wp2_with fail
  (with_reducible refine HC.out.mono ?_)
  rintro e W2 ⟨v, xs, rfl, h⟩
  have HF := Lib.hid h
  clear h
  go_wp2
  go_ret
  exact ⟨v, xs, rfl, HF.out⟩
end Go.Proofs.Ytgciibcngmimkaa
