/-
  Joints.
-/
import Derived.Test.YtlcadkhhpnaofaaGW14
import Derived.Test.YtlcadkhhpnaofaaGSort
import Derived.Laws.EntriesVeiled
namespace Go.Proofs.Ytlcadkhhpnaofaa
set_option maxRecDepth 100000
open Go Go.RowKit Gq

def joi1 (R : Gr) (s : FS) (v : Nat) : FS := if nv s.met v = 0 then (falF R (bkF R) R.length v true s).2 else s
theorem joiK_succ (R : Gr) (k : Nat) : joiK R (k + 1) = joi1 R (joiK R k) k := by
  unfold joiK
  rw [List.range_succ, List.foldl_append]
  rfl
theorem bk_lt {R : Gr} (hO : Ok R) (v : Nat) : ∀ x ∈ row (bkF R) v, x < R.length := fun x hx => by
  have := (bkF_ok hO).node v x hx
  rwa [bkF_length] at this
theorem joi_b {R : Gr} (hO : Ok R) : ∀ k, k ≤ R.length → FB ⟨0, List.replicate R.length 0, []⟩ (joiK R k)
  | 0, _ => FB.refl _
  | k + 1, hk => by
    have h := joi_b hO k (by omega)
    rw [joiK_succ]
    unfold joi1
    split
    · rename_i hu
      exact h.trans (fb R.length (hO.node) (bk_lt hO) R.length k true (joiK R k) (by rw [h.1]; simp) (by omega) hu)
    · exact h
theorem joi_n {R : Gr} (hO : Ok R) {k : Nat} (hk : k ≤ R.length) : (joiK R k).met.length = R.length ∧ zc (joiK R k).met ≤ R.length ∧ (joiK R k).turn + zc (joiK R k).met ≤ R.length ∧ (joiK R k).joints.length + zc (joiK R k).met ≤ R.length := by
  obtain ⟨h1, h2, h3, h4⟩ := joi_b hO k hk
  simp only [List.length_replicate, zc_none, List.length_nil] at h1 h2 h3 h4
  exact ⟨h1, h2, by omega, by omega⟩

def JW (w W1 : World) (n b' : Nat) : World :=
  (((((W1.alloc (.cells #[.pointer (some ⟨b', 0, none⟩)] 23)).alloc (.cells #[.slice none 0 0] 34)).alloc (.cells (madeCells #[.int .i64 0] n) 3)).alloc (.cells #[.slice (some ⟨W1.heap.size + 2, 0, none⟩) n n] 34)).alloc (.cells #[.int .i64 0] 3)).alloc
    (.cells #[.func (.func 37) #[] #[.pointer (some ⟨W1.heap.size + 4, 0, none⟩), .pointer (some ⟨W1.heap.size + 3, 0, none⟩), .pointer (some ⟨w.heap.size, 0, none⟩), .pointer (some ⟨W1.heap.size, 0, none⟩), .pointer (some ⟨W1.heap.size + 5, 0, none⟩), .pointer (some ⟨W1.heap.size + 1, 0, none⟩)]] 65)

theorem fe_start {w W1 : World} {b b' : Nat} {R : Gr} {S : Nat → Prop} (h : GAt w b R S) (hO : Ok R) (hg : GraphPost (w.alloc (.cells #[.pointer (some ⟨b, 0, none⟩)] 23)) (bkF R) b' W1) :
    FE (JW w W1 R.length b') R (bkF R) (W1.heap.size + 4) (W1.heap.size + 2) (W1.heap.size + 1) (W1.heap.size + 3) w.heap.size W1.heap.size (W1.heap.size + 5) b b' ∧
      FJ (JW w W1 R.length b') (W1.heap.size + 4) (W1.heap.size + 2) (W1.heap.size + 1) nilV (JW w W1 R.length b').heap.size (joiK R 0) nilV (JW w W1 R.length b') ∧ Below w.heap.size w (JW w W1 R.length b') ∧ GAt (JW w W1 R.length b') b R S ∧ (JW w W1 R.length b').heap.size = W1.heap.size + 6 := by
  obtain ⟨S', hg', hfr, hb⟩ := hg
  have hz : (w.alloc (.cells #[.pointer (some ⟨b, 0, none⟩)] 23)).heap.size = w.heap.size + 1 := by simp
  rw [hz] at hfr
  have hsz := hb.size
  rw [hz] at hsz
  have al : ∀ (A : World) (o : Obj) (k : Nat) {x : Obj}, A.heap[k]? = some x → (A.alloc o).heap[k]? = some x := fun A o k {x} hx => (Below.heap_alloc A o k (blk_lt hx)).trans hx
  have nw : ∀ (A : World) (o : Obj) (k : Nat), k = A.heap.size → (A.alloc o).heap[k]? = some o := fun A o k e => by rw [e]; exact heap_alloc_new A o
  have hst : Still W1 (JW w W1 R.length b') := ((((((Kept.refl _ W1).alloc _).alloc _).alloc _).alloc _).alloc _).alloc _
  have hw1 : Still w W1 := ((Kept.refl (fun _ => False) w).alloc _).trans (Kept.of_below (X := fun _ => False) hb (Nat.le_refl _)) (fun _ _ => id)
  have hSl := h.lt
  have hSl' := hg'.lt
  have hG := (h.still hw1).still hst
  have hG' := hg'.still hst
  have hpg : W1.heap[w.heap.size]? = some (.cells #[.pointer (some ⟨b, 0, none⟩)] 23 (0, 0)) := by
    rw [hb.block _ (by rw [hz]; omega)]; exact heap_alloc_new w _
  have e1 : (JW w W1 R.length b').heap[W1.heap.size + 1]? = some (.cells #[.slice none 0 0] 34 (0, 0)) := al _ _ _ (al _ _ _ (al _ _ _ (al _ _ _ (nw _ _ _ (by simp)))))
  have e2 : (JW w W1 R.length b').heap[W1.heap.size + 2]? = some (.cells (madeCells #[.int .i64 0] R.length) 3 (0, 0)) := al _ _ _ (al _ _ _ (al _ _ _ (nw _ _ _ (by simp))))
  have e4 : (JW w W1 R.length b').heap[W1.heap.size + 4]? = some (.cells #[.int .i64 0] 3 (0, 0)) := al _ _ _ (nw _ _ _ (by simp))
  have hz6 : (JW w W1 R.length b').heap.size = W1.heap.size + 6 := by simp [JW]
  refine ⟨⟨hO.size, hO.node, bk_lt hO, fun v => ⟨by have := hO.len v; have := hO.size; omega, by have := (bkF_ok hO).len v; have := hO.size; rw [bkF_length] at *; omega⟩, ?_, ?_, ?_, ?_, fun k hk => ?_, fun k hk => ?_, by omega, by omega, by omega, by omega, by omega, by omega⟩, ⟨Kept.refl _ _, e4, ?_, e1, RowAt.nil _, fun k hk => by simp [nilV, Value.ownBlock] at hk⟩, ?_, hG, hz6⟩
  · rw [blk_cell (show (JW w W1 R.length b').heap[W1.heap.size + 3]? = some (.cells #[.slice (some ⟨W1.heap.size + 2, 0, none⟩) R.length R.length] 34 (0, 0)) from al _ _ _ (al _ _ _ (nw _ _ _ (by simp))))]; rfl
  · exact hst.cell (by rw [blk_cell hpg]; rfl) id
  · rw [blk_cell (show (JW w W1 R.length b').heap[W1.heap.size]? = some (.cells #[.pointer (some ⟨b', 0, none⟩)] 23 (0, 0)) from al _ _ _ (al _ _ _ (al _ _ _ (al _ _ _ (al _ _ _ (nw _ _ _ rfl))))))]; rfl
  · rw [blk_cell (show (JW w W1 R.length b').heap[W1.heap.size + 5]? = _ from nw _ _ _ (by simp))]; rfl
  · obtain ⟨g, cap, P, c, h1, h2, h3, h4, h5⟩ := row_readS hG hk
    refine ⟨g, cap, P, c, by have := hSl b h1; omega, by have := hSl g h2; omega, h3, h4, fun i hi => ?_⟩
    obtain ⟨q, h6, h7, h8⟩ := h5 i hi
    exact ⟨q, h6, by have := hSl q h7; omega, h8⟩
  · obtain ⟨g, cap, P, c, h1, h2, h3, h4, h5⟩ := row_readS hG' (by rw [bkF_length]; exact hk)
    rw [bkF_length] at h3
    refine ⟨g, cap, P, c, by have := hSl' b' h1; omega, by have := hSl' g h2; omega, h3, h4, fun i hi => ?_⟩
    obtain ⟨q, h6, h7, h8⟩ := h5 i hi
    exact ⟨q, h6, by have := hSl' q h7; omega, h8⟩
  · rw [e2]
    have e : ic (ints (joiK R 0).met) = madeCells #[.int .i64 0] R.length := by
      apply Array.toList_inj.1
      rw [toList_madeCells_one]
      simp [ic, ints, joiK]
    rw [e]
  · exact (hw1.trans hst (fun _ _ => id)).below (fun _ h => h.elim) (Nat.le_refl _)

set_option maxHeartbeats 2000000 in
theorem joints_any {w : World} {b : Nat} {R : Gr} {S : Nat → Prop} (h : GAt w b R S) (hO : Ok R) :
    Calls Try.prog 20 #[.pointer (some ⟨b, 0, none⟩)] w (NewR w (joiF R)) := by
  have hn := hO.size
  have hmk := makeInts_run R.length (by omega)
  have HBk := Lib.hid (back_any (h.alloc (.cells #[.pointer (some ⟨b, 0, none⟩)] 23)) hO)
  have HL : Hid (∀ W, Still w W → Calls Try.prog 18 #[.pointer (some ⟨b, 0, none⟩)] W fun e w' => e = .returned (.int .i64 (R.length : Int)) ∧ w' = W) := fun W hb => len_any (h.still hb)
  have HFE : Hid (∀ W1 b', GraphPost (w.alloc (.cells #[.pointer (some ⟨b, 0, none⟩)] 23)) (bkF R) b' W1 → Still w W1 ∧ W1.cell? ⟨w.heap.size, 0, none⟩ = some (.pointer (some ⟨b, 0, none⟩))) := by
    rintro W1 b' ⟨_, _, _, hb⟩
    refine ⟨((Kept.refl (fun _ => False) w).alloc _).trans (Kept.of_below (X := fun _ => False) hb (Nat.le_refl _)) (fun _ _ => id), ?_⟩
    rw [hb.cell (p := ⟨w.heap.size, 0, none⟩) (by simp), blk_cell (heap_alloc_new w _)]; rfl
  have HG := Lib.hid h
  have HOk := Lib.hid hO
  clear h hO
  obtain ⟨n, hnR⟩ : ∃ n, n = R.length := ⟨_, rfl⟩
  rw [← hnR] at hn hmk HL
  have HN := Lib.hid hnR
  clear hnR
  go_enter Try.func20, Try.ntmps20
  go_wp2_with fail
  refine HBk.out.mono ?_
  rintro e W1 ⟨b', rfl, hg⟩
  obtain ⟨hst, cpg⟩ := HFE.out W1 b' hg
  have HGP := Lib.hid hg
  have HST := Lib.hid hst
  have HPG := Lib.hid cpg
  have cpg2 : ((W1.alloc (.cells #[.pointer (some ⟨b', 0, none⟩)] 23)).alloc (.cells #[.slice none 0 0] 34)).cell? ⟨w.heap.size, 0, none⟩ = some (.pointer (some ⟨b, 0, none⟩)) := ((((Kept.refl (fun _ => False) W1).alloc _).alloc _).cell cpg id)
  clear hg hst
  go_wp2_with fail
  refine (HL.out _ ((HST.out.alloc _).alloc _)).mono ?_
  rintro e w' ⟨rfl, hw⟩
  obtain rfl := hw.symm
  clear cpg2
  have cpg3 := (((((((Kept.refl (fun _ => False) W1).alloc (.cells #[.pointer (some ⟨b', 0, none⟩)] 23)).alloc (.cells #[.slice none 0 0] 34)).alloc (.cells (madeCells #[.int .i64 0] n) 3)).alloc (.cells #[.slice (some ⟨W1.heap.size + 2, 0, none⟩) n n] 34)).alloc (.cells #[.int .i64 0] 3)).alloc (.cells #[.func (.func 37) #[] #[.pointer (some ⟨W1.heap.size + 4, 0, none⟩), .pointer (some ⟨W1.heap.size + 3, 0, none⟩), .pointer (some ⟨w.heap.size, 0, none⟩), .pointer (some ⟨W1.heap.size, 0, none⟩), .pointer (some ⟨W1.heap.size + 5, 0, none⟩), .pointer (some ⟨W1.heap.size + 1, 0, none⟩)]] 65)).cell cpg id
  go_wp2_with fail
  refine (HL.out _ ((((((HST.out.alloc _).alloc _).alloc _).alloc _).alloc _).alloc _)).mono ?_
  rintro e w' ⟨rfl, hw⟩
  obtain rfl := hw.symm
  clear cpg3
  go_wp2_with fail
  obtain ⟨Wb, hWb⟩ : ∃ Wb, Wb = JW w W1 n b' := ⟨_, rfl⟩
  have hWb2 := hWb
  unfold JW at hWb2
  rw [← hWb2]
  obtain ⟨hE, hJ, hbel, hGb, hz⟩ := fe_start HG.out HOk.out HGP.out
  rw [← HN.out, ← hWb] at hE hJ hbel hGb hz
  have HE := Lib.hid hE
  have HJ0 := Lib.hid hJ
  have HBel := Lib.hid hbel
  have hsz := hbel.size
  have hlo : w.heap.size + 1 ≤ W1.heap.size := by
    obtain ⟨_, _, _, hb⟩ := HGP.out
    have := hb.size
    simpa using this
  clear hWb hWb2 hE hJ hbel hGb hmk HL HFE HBk HPG HST HGP cpg
  generalize W1.heap.size = m at *
  go_loopw [17] (fun ua wr => ∃ k : Nat, k ≤ n ∧ ua = .int .i64 (k : Int) ∧ ∃ u, FJ Wb (m + 4) (m + 2) (m + 1) nilV Wb.heap.size (joiK R k) u wr) (fun ua _ => n - (intOf ua).toNat)
  case atStart => exact ⟨0, Nat.zero_le _, rfl, _, HJ0.out⟩
  case round =>
    obtain ⟨k, hk, rfl, u, hfj⟩ := hrel
    clear HJ0
    have hjn := joi_n HOk.out (k := k) (by rw [← HN.out]; exact hk)
    by_cases hlt : k < n
    · have d1 := hfj.up HE.out.nm HE.out.cm
      rw [← HN.out] at d1
      have d6 := hfj.up HE.out.nf HE.out.cf
      have mD : wr.cell? ⟨m + 2, k, none⟩ = some (.int .i64 ((nv (joiK R k).met k : Nat) : Int)) := by
        rw [blk_cell hfj.m, ic_get (by rw [ints_length, hjn.1, ← HN.out]; exact hlt), ints_get]; rfl
      have HFJ := Lib.hid hfj
      have HST := Lib.hid (joiK_succ R k)
      by_cases hz0 : nv (joiK R k).met k = 0
      · have mD0 : wr.cell? ⟨m + 2, k, none⟩ = some (.int .i64 0) := by rw [mD, hz0]; rfl
        have HC := Lib.hid (falls_any HE R.length k true (joiK R k) wr u hjn.2.1 hjn.1 (by rw [← HN.out]; exact hlt) hz0 hjn.2.2.1 hjn.2.2.2 hfj)
        have HQ : Hid (∀ w', (∃ u', FJ wr (m + 4) (m + 2) (m + 1) u wr.heap.size (falF R (bkF R) R.length k true (joiK R k)).2 u' w') → ∃ u', FJ Wb (m + 4) (m + 2) (m + 1) nilV Wb.heap.size (joiK R (k + 1)) u' w') := by
          rintro w' ⟨u', h2⟩
          refine ⟨u', ?_⟩
          rw [HST.out]
          unfold joi1
          rw [if_pos hz0]
          exact hfj.next (Nat.le_refl _) hfj.k.size h2
        clear mD hz0 hjn hfj HFJ
        generalize joiK R k = sk at *
        go_wp2_with fail
        refine HC.out.mono ?_
        rintro e w' ⟨rfl, hq⟩
        have HQ2 := Lib.hid (HQ.out _ hq)
        clear hq HQ HC
        go_wp2
        go_roundw
        case rel => exact ⟨k + 1, by omega, by go_num, HQ2.out⟩
        case measure => simp [intOf]; omega
      · have HQ2 : Hid (∃ u', FJ Wb (m + 4) (m + 2) (m + 1) nilV Wb.heap.size (joiK R (k + 1)) u' wr) := by
          refine ⟨u, ?_⟩
          rw [HST.out]
          unfold joi1
          rw [if_neg hz0]
          exact hfj
        clear hjn hfj HFJ HST
        generalize nv (joiK R k).met k = t at *
        go_wp2
        go_roundw
        case rel => exact ⟨k + 1, by omega, by go_num, HQ2.out⟩
        case measure => simp [intOf]; omega
    · obtain rfl : k = n := by omega
      have cj : wr.cell? ⟨m + 1, 0, none⟩ = some u := by rw [blk_cell hfj.j]; rfl
      have hlj : (joiK R k).joints.length ≤ 100000 := by have := hjn.2.2.2; have := HOk.out.size; omega
      have HC := Lib.hid (sort_any hfj.r hlj)
      have hfr := hfj.fresh
      have hbW : Below w.heap.size w wr := HBel.out.trans (hfj.k.below (by
        rintro i (h | h | h | h)
        · omega
        · omega
        · omega
        · simp [nilV, Value.ownBlock] at h) hsz)
      have HQ : Hid (∀ W2, RowAt W2 u (srtN (joiK R k).joints) → Kept (fun i => u.ownBlock = some i) wr W2 → W2.cell? ⟨m + 1, 0, none⟩ = some u ∧ NewR w (joiF R) (.returned u) W2) := by
        intro W2 hr hk2
        refine ⟨hk2.cell (p := ⟨m + 1, 0, none⟩) cj (fun e => by have := hfr (m + 1) e; omega), u, rfl, ?_, fun i hi => by have := hfr i hi; omega, hbW.trans (hk2.below (fun i hi => by have := hfr i hi; omega) hbW.size)⟩
        unfold joiF
        rw [← HN.out]
        exact hr
      clear hfj hjn hfr hbW
      go_wp2_with fail
      refine HC.out.mono ?_
      rintro e W2 ⟨rfl, hr, hk2⟩
      obtain ⟨q1, q2⟩ := HQ.out W2 hr hk2
      have HQ3 := Lib.hid q2
      clear hr hk2 q2 HQ HC
      go_wp2
      go_ret
      exact HQ3.out
end Go.Proofs.Ytlcadkhhpnaofaa
