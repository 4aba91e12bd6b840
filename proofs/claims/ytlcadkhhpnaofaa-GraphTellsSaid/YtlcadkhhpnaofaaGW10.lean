/-
  finished.
-/
import Derived.Test.YtlcadkhhpnaofaaGW9
import Derived.Laws.EntriesVeiled
namespace Go.Proofs.Ytlcadkhhpnaofaa
set_option maxRecDepth 100000
open Go Go.RowKit Gq

theorem cnt_none (n : Nat) : cnt (List.replicate n false) = n := by
  unfold cnt
  rw [List.countP_replicate]
  rfl
theorem finK_b {R : Gr} (hO : Ok R) {k : Nat} (hk : k ≤ R.length) : (finK R k).1.length = R.length ∧ cnt (finK R k).1 ≤ R.length ∧ (finK R k).2.length + cnt (finK R k).1 ≤ R.length := by
  have h := visB_list hO R.length (List.range k) (List.replicate R.length false, []) (by simp) (fun x hx => by have := List.mem_range.1 hx; omega)
  have h1 := h.1
  have h2 := h.2.1
  have h3 := h.2.2
  simp only [cnt_none, List.length_replicate, List.length_nil] at h1 h2 h3
  exact ⟨h1, h2, by unfold finK; omega⟩

/-- A new list of nodes. -/
def NewR (w : World) (l : List Nat) (e : Ending) (w' : World) : Prop :=
  ∃ v, e = .returned v ∧ RowAt w' v l ∧ (∀ k, v.ownBlock = some k → w.heap.size ≤ k) ∧ Below w.heap.size w w'

set_option maxHeartbeats 2000000 in
theorem finished_any {w : World} {b : Nat} {R : Gr} {S : Nat → Prop} (h : GAt w b R S) (hO : Ok R) :
    Calls Try.prog 35 #[.pointer (some ⟨b, 0, none⟩)] w (NewR w (finF R)) := by
  have hn := hO.size
  have hmk := makeBools_run R.length (by omega)
  have HL : Hid (∀ W, Below w.heap.size w W → Calls Try.prog 18 #[.pointer (some ⟨b, 0, none⟩)] W fun e w' => e = .returned (.int .i64 (R.length : Int)) ∧ w' = W) := fun W hb => len_any (h.below hb (Nat.le_refl _))
  have HE : Hid (∀ Wb, Wb = ((((w.alloc (.cells #[.pointer (some ⟨b, 0, none⟩)] 23)).alloc (.cells #[.slice none 0 0] 34)).alloc (.cells (madeCells #[.bool false] R.length) 4)).alloc (.cells #[.slice (some ⟨w.heap.size + 2, 0, none⟩) R.length R.length] 53)).alloc (.cells #[.func (.func 48) #[] #[.pointer (some ⟨w.heap.size + 3, 0, none⟩), .pointer (some ⟨w.heap.size, 0, none⟩), .pointer (some ⟨w.heap.size + 4, 0, none⟩), .pointer (some ⟨w.heap.size + 1, 0, none⟩)]] 72) →
      VisE Wb R (w.heap.size + 2) b (w.heap.size + 3) w.heap.size (w.heap.size + 4) (w.heap.size + 1) ∧ VisM Wb (w.heap.size + 2) (w.heap.size + 1) (finK R 0) Wb ∧ Below w.heap.size w Wb ∧ Wb.heap.size = w.heap.size + 5) := by
    rintro Wb rfl
    have al : ∀ (A : World) (o : Obj) (k : Nat) {x : Obj}, A.heap[k]? = some x → (A.alloc o).heap[k]? = some x := fun A o k {x} hx => (Below.heap_alloc A o k (blk_lt hx)).trans hx
    have nw : ∀ (A : World) (o : Obj) (k : Nat), k = A.heap.size → (A.alloc o).heap[k]? = some o := fun A o k e => by rw [e]; exact heap_alloc_new A o
    have hlt := h.lt
    have hG := ((((h.alloc (.cells #[.pointer (some ⟨b, 0, none⟩)] 23)).alloc (.cells #[.slice none 0 0] 34)).alloc (.cells (madeCells #[.bool false] R.length) 4)).alloc (.cells #[.slice (some ⟨w.heap.size + 2, 0, none⟩) R.length R.length] 53)).alloc (.cells #[.func (.func 48) #[] #[.pointer (some ⟨w.heap.size + 3, 0, none⟩), .pointer (some ⟨w.heap.size, 0, none⟩), .pointer (some ⟨w.heap.size + 4, 0, none⟩), .pointer (some ⟨w.heap.size + 1, 0, none⟩)]] 72)
    refine ⟨⟨hO, ?_, ?_, ?_, fun k hk => ?_, by omega, by omega, by omega, by omega, by simp⟩, ⟨Kept.refl _ _, ?_, .slice none 0 0, ?_, RowAt.nil _, fun k hk => by simp [Value.ownBlock] at hk⟩, ?_, by simp⟩
    · rw [blk_cell (al _ _ _ (nw _ _ _ (by simp)))]; rfl
    · rw [blk_cell (al _ _ _ (al _ _ _ (al _ _ _ (al _ _ _ (nw _ _ _ rfl)))))]; rfl
    · rw [blk_cell (nw _ _ _ (by simp))]; rfl
    · obtain ⟨g, cap, P, c, h1, h2, h3, h4, h5⟩ := row_readS hG hk
      refine ⟨g, cap, P, c, by have := hlt b h1; omega, by have := hlt g h2; omega, h3, h4, fun i hi => ?_⟩
      obtain ⟨q, h6, h7, h8⟩ := h5 i hi
      exact ⟨q, h6, by have := hlt q h7; omega, h8⟩
    · show _ = some (Obj.cells (bs (List.replicate R.length false)) _ _)
      rw [← bs_made]
      exact al _ _ _ (al _ _ _ (nw _ _ _ (by simp)))
    · exact al _ _ _ (al _ _ _ (al _ _ _ (nw _ _ _ (by simp))))
    · exact (((((Below.refl _ w).alloc (Nat.le_refl _) _).alloc (by simp) _).alloc (by simp; omega) _).alloc (by simp; omega) _).alloc (by simp; omega) _
  have HB2 : Hid (∀ o o', Below w.heap.size w ((w.alloc o).alloc o')) := fun o o' => ((Below.refl _ w).alloc (Nat.le_refl _) o).alloc (by simp) o'
  have HOk := Lib.hid hO
  clear h hO
  obtain ⟨n, hnR⟩ : ∃ n, n = R.length := ⟨_, rfl⟩
  rw [← hnR] at hn hmk HL HE
  have HN := Lib.hid hnR
  clear hnR
  go_enter Try.func35, Try.ntmps35
  go_wp2_with fail
  refine (HL.out _ (HB2.out _ _)).mono ?_
  rintro e w' ⟨rfl, hw⟩
  obtain rfl := hw.symm
  go_wp2_with fail
  refine (HL.out _ (HE.out _ rfl).2.2.1).mono ?_
  rintro e w' ⟨rfl, hw⟩
  obtain rfl := hw.symm
  go_wp2_with fail
  obtain ⟨Wb, hWb⟩ : ∃ Wb, Wb = ((((w.alloc (.cells #[.pointer (some ⟨b, 0, none⟩)] 23)).alloc (.cells #[.slice none 0 0] 34)).alloc (.cells (madeCells #[.bool false] n) 4)).alloc (.cells #[.slice (some ⟨w.heap.size + 2, 0, none⟩) n n] 53)).alloc (.cells #[.func (.func 48) #[] #[.pointer (some ⟨w.heap.size + 3, 0, none⟩), .pointer (some ⟨w.heap.size, 0, none⟩), .pointer (some ⟨w.heap.size + 4, 0, none⟩), .pointer (some ⟨w.heap.size + 1, 0, none⟩)]] 72) := ⟨_, rfl⟩
  obtain ⟨hE, hM, hB, hz⟩ := HE.out Wb hWb
  rw [← hWb]
  have HV := Lib.hid hE
  have HM := Lib.hid hM
  have HB := Lib.hid hB
  have hs := hB.size
  clear hWb HL HE hE hM hB hmk HB2
  go_loopw [13] (fun u wr => ∃ k : Nat, k ≤ n ∧ u = .int .i64 (k : Int) ∧ VisM Wb (w.heap.size + 2) (w.heap.size + 1) (finK R k) wr) (fun u _ => n - (intOf u).toNat)
  case atStart => exact ⟨0, Nat.zero_le _, rfl, HM.out⟩
  case round =>
    obtain ⟨k, hk, rfl, hM⟩ := hrel
    clear HM
    have hfb := finK_b HOk.out (k := k) (by rw [← HN.out]; exact hk)
    by_cases hlt : k < n
    · have d1 : wr.cell? ⟨w.heap.size + 1 + 1 + 1, 0, none⟩ = some (.slice (some ⟨w.heap.size + 1 + 1, 0, none⟩) n n) := by
        rw [HN.out]; exact hM.up HV.out.n1 HV.out.c1
      have d3 : wr.cell? ⟨w.heap.size + 1 + 1 + 1 + 1, 0, none⟩ = _ := hM.up HV.out.n3 HV.out.c3
      have mB : wr.cell? ⟨w.heap.size + 1 + 1, k, none⟩ = some (.bool (mtb (finK R k).1 k)) := by
        rw [blk_cell hM.2.1 k]; exact bs_get (by rw [hfb.1, ← HN.out]; exact hlt)
      have HST : Hid (finK R (k + 1) = vis1 R R.length (finK R k) k) := finK_succ R k
      have HM := Lib.hid hM
      have HF := Lib.hid hfb
      clear hM hfb
      generalize finK R k = sk at *
      cases hmt : mtb sk.1 k with
      | true =>
        rw [hmt] at mB
        have HQ : Hid (VisM Wb (w.heap.size + 2) (w.heap.size + 1) (finK R (k + 1)) wr) := by
          show VisM _ _ _ _ _
          rw [HST.out]
          unfold vis1
          rw [if_pos hmt]
          exact HM.out
        clear hmt HM
        go_wp2
        go_roundw
        case rel => exact ⟨k + 1, by omega, by go_num, HQ.out⟩
        case measure => simp [intOf]; omega
      | false =>
        rw [hmt] at mB
        have HC := Lib.hid (visit_any HV R.length k sk wr HF.out.2.1 HF.out.1 (by rw [← HN.out]; exact hlt) hmt HF.out.2.2 HM.out)
        have e : visF R R.length k sk = finK R (k + 1) := by
          rw [HST.out]
          unfold vis1
          rw [if_neg (by simp [hmt])]
        rw [e] at HC
        clear hmt HM e
        go_wp2_with fail
        refine HC.out.mono ?_
        rintro e w' ⟨rfl, hq⟩
        have HQ := Lib.hid hq
        clear hq
        go_wp2
        go_roundw
        case rel => exact ⟨k + 1, by omega, by go_num, HQ.out⟩
        case measure => simp [intOf]; omega
    · obtain rfl : k = n := by omega
      obtain ⟨hk2, _, u, hu, hur, hug⟩ := hM
      have c4 : wr.cell? ⟨w.heap.size + 1, 0, none⟩ = some u := by rw [blk_cell hu]; rfl
      have HQ : Hid (NewR w (finF R) (.returned u) wr) := by
        refine ⟨u, rfl, ?_, fun i hi => by have := hug i hi; omega, HB.out.trans (hk2.below (by rintro i (h | h) <;> omega) hs)⟩
        unfold finF
        rw [← HN.out]; exact hur
      clear hk2 hu hur hug hfb
      go_wp2
      go_ret
      exact HQ.out
end Go.Proofs.Ytlcadkhhpnaofaa
