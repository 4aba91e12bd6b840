/-
  Back.
-/
import Derived.Test.YtlcadkhhpnaofaaGW4
import Derived.Test.YtlcadkhhpnaofaaGMir
import Derived.Deep.RegionLaw
namespace Go.Proofs.Ytlcadkhhpnaofaa
set_option maxRecDepth 100000
open Go Go.RowKit Gq

theorem take_snoc' {l : List Nat} {k : Nat} (h : k < l.length) : l.take (k + 1) = l.take k ++ [l.getD k 0] := by
  rw [List.take_succ_eq_append_getElem h]; simp [List.getD, h]

/-- In the midst of the graph back: k nodes are done, and i edges of the next one. -/
def bkI (R : Gr) (k i : Nat) : Gr := ((row R k).take i).foldl (fun B b => pushE B b k) (bkK R k)
theorem bkI_zero (R : Gr) (k : Nat) : bkI R k 0 = bkK R k := rfl
theorem bkI_succ {R : Gr} {k i : Nat} (h : i < (row R k).length) : bkI R k (i + 1) = pushE (bkI R k i) ((row R k).getD i 0) k := by
  unfold bkI
  rw [take_snoc' h, List.foldl_append]; rfl
theorem bkI_full {R : Gr} {k i : Nat} (h : (row R k).length ≤ i) : bkI R k i = bkK R (k + 1) := by
  unfold bkI
  rw [List.take_of_length_le h, bkK_succ]; rfl
theorem bkI_length (R : Gr) (k i : Nat) : (bkI R k i).length = R.length := by unfold bkI; rw [pushes_length, bkK_length]
theorem bkI_len {R : Gr} (hO : Ok R) (k i j : Nat) (hk : k < R.length) : (row (bkI R k i) j).length ≤ R.length + 1 := by
  have h1 : (row (bkI R k i) j).length ≤ (row (bkK R k) j).length + 1 := by
    unfold bkI
    rw [row_pushes k (fun x hx => by rw [bkK_length]; exact hO.node k x (List.mem_of_mem_take hx)) (((hO.rise k).imp (fun h => Nat.ne_of_lt h)).sublist (List.take_sublist ..))]
    split
    · simp
    · omega
  rw [row_bkK hO] at h1
  have := List.length_filter_le (fun a => decide (j ∈ row R a)) (List.range k)
  simp at this
  omega

/-- What a row's append leaves. -/
theorem gat_push {w w1 w2 : World} {b j x : Nat} {R : Gr} {S : Nat → Prop} {A : Value} {Vs : List Value} {T : Option Nat} {g cap g2 cap2 : Nat}
    (hc : w.cell? ⟨b, 0, none⟩ = some A) (hf : w.frozen? ⟨b, 0, none⟩ = false) (ht : Tab w A Vs R T) (hn : T ≠ some b) (hb : S b) (hT : ∀ g, T = some g → S g)
    (hr : ∀ i, i < R.length → ∀ k, (hd Vs i).ownBlock = some k → S k ∧ k ≠ b) (hlt : ∀ k, S k → k < w.heap.size) (ha : j < R.length)
    (hA : A = .slice (some ⟨g, 0, none⟩) R.length cap) (hg : T = some g) (hs : Still w w1) {H : Nat} (hH : w1.heap.size = H)
    (ho : w2.ownsRow 0 3 1 (.slice (some ⟨g2, 0, none⟩) ((row R j).length + 1) cap2) ((row R j).length + 1) (nis (row R j) ++ [.int .i64 (x : Int)])) (hgr : w1.grownBy w2 (hd Vs j).ownBlock)
    (hat : (hd Vs j).ownBlock = some g2 ∨ g2 = H) :
    ∃ S', GAt (w2.setCell ⟨g, j, none⟩ (.slice (some ⟨g2, 0, none⟩) ((row R j).length + 1) cap2)) b (pushE R j x) S' ∧ (∀ k, S' k → S k ∨ w.heap.size ≤ k) ∧ Kept S w (w2.setCell ⟨g, j, none⟩ (.slice (some ⟨g2, 0, none⟩) ((row R j).length + 1) cap2)) := by
  refine gat_put hc hf ht hn hb hT hr hlt ha hA hg hs ⟨_, rfl, ?_, ?_, by simp [Value.ownBlock], ?_⟩
  · show World.ownsRow _ _ _ _ _ _ _
    rw [nis_append, List.length_append]
    exact ho
  · rcases hat with h | h
    · exact .inl h.symm
    · right; show some g2 = _; rw [h, hH]
  · exact (Kept.refl _ w1).grown hgr (fun k h => .inl h)

def BackRel (w wr : World) (b : Nat) (B : Gr) : Prop := GraphPost w B b wr

theorem BackRel.push {w wr : World} {b k j : Nat} {B : Gr} (h : BackRel w wr b B) (hj : j < B.length) :
    ∃ g cap v, wr.cell? ⟨b, 0, none⟩ = some (.slice (some ⟨g, 0, none⟩) B.length cap) ∧ wr.cell? ⟨g, j, none⟩ = some v ∧ wr.frozen? ⟨g, j, none⟩ = false ∧ v.ownBlock ≠ some g ∧ RowAt wr v (row B j) ∧
      ∀ w1 w2 g2 cap2 H, Still wr w1 → w1.heap.size = H → w2.ownsRow 0 3 1 (.slice (some ⟨g2, 0, none⟩) ((row B j).length + 1) cap2) ((row B j).length + 1) (nis (row B j) ++ [.int .i64 (k : Int)]) → w1.grownBy w2 v.ownBlock → (v.ownBlock = some g2 ∨ g2 = H) →
        (w2.cell? ⟨b, 0, none⟩ = some (.slice (some ⟨g, 0, none⟩) B.length cap) ∧ w2.cell? ⟨g, j, none⟩ = some v ∧ w2.frozen? ⟨g, j, none⟩ = false) ∧
        BackRel w (w2.setCell ⟨g, j, none⟩ (.slice (some ⟨g2, 0, none⟩) ((row B j).length + 1) cap2)) b (pushE B j k) := by
  obtain ⟨S, ⟨A, Vs, T, hc, hf, ht, hn, hb, hT, hr, hlt⟩, hfr, hbl⟩ := h
  obtain ⟨g, cap, hA, hg, hc2, hf2⟩ := ht.head hj
  have hrow := ht.row j hj
  refine ⟨g, cap, hd Vs j, by rw [← hA]; exact hc, hc2, hf2, fun e => (hrow.2 g e).1 hg, hrow.1, fun w1 w2 g2 cap2 H hs hH ho hgr hat => ?_⟩
  have hk2 : Kept (fun k => (hd Vs j).ownBlock = some k) wr w2 := (hs.mono (fun _ _ h => h.elim)).trans ((Kept.refl (fun k => (hd Vs j).ownBlock = some k) w1).grown hgr (fun k h => .inl h)) (fun _ _ h => h)
  have hjg : ¬ (hd Vs j).ownBlock = some g := fun e => (hrow.2 g e).1 hg
  refine ⟨⟨?_, hk2.cell hc2 hjg, ?_⟩, ?_⟩
  · rw [← hA]; exact hk2.cell hc (fun e => (hr j hj b e).2 rfl)
  · rw [hk2.frozen (p := ⟨g, j, none⟩) (hlt g (hT g hg)) hjg]; exact hf2
  · obtain ⟨S', h1, h2, h3⟩ := gat_push (x := k) hc hf ht hn hb hT hr hlt hj hA hg hs hH ho hgr hat
    refine ⟨S', h1, fun i hi => ?_, hbl.trans (h3.below hfr hbl.size)⟩
    rcases h2 i hi with h4 | h4
    · exact hfr i h4
    · have := hbl.size; omega

/-- A row, as a walk reads it: its head, and its cells in whatever world keeps what was. -/
theorem row_read {w : World} {b : Nat} {R : Gr} {S : Nat → Prop} (h : GAt w b R S) {k : Nat} (hk : k < R.length) :
    ∃ g cap P c, (∀ wr, Below w.heap.size w wr → wr.cell? ⟨b, 0, none⟩ = some (.slice (some ⟨g, 0, none⟩) R.length cap) ∧ wr.cell? ⟨g, k, none⟩ = some (.slice P (row R k).length c)) ∧
      ∀ i, i < (row R k).length → ∃ q, P = some ⟨q, 0, none⟩ ∧ ∀ wr, Below w.heap.size w wr → wr.cell? ⟨q, i, none⟩ = some (.int .i64 (((row R k).getD i 0 : Nat) : Int)) := by
  obtain ⟨A, Vs, T, hc, hf, ht, _⟩ := h
  obtain ⟨g, cap, rfl, _, hc2, _⟩ := ht.head hk
  obtain ⟨P, c, hv, _, _, _, hcell⟩ := (ht.row k hk).1.form
  rw [hv] at hc2
  have up : ∀ wr, Below w.heap.size w wr → ∀ {p : Addr} {v : Value}, w.cell? p = some v → wr.cell? p = some v := fun wr hb p v hp => (hb.cell (World.block_lt_of_cell? w p hp)).trans hp
  refine ⟨g, cap, P, c, fun wr hb => ⟨up wr hb hc, up wr hb hc2⟩, fun i hi => ?_⟩
  obtain ⟨q, rfl, h1, _⟩ := hcell i hi
  exact ⟨q, rfl, fun wr hb => up wr hb h1⟩

set_option maxHeartbeats 2000000 in
theorem back_any {w : World} {b : Nat} {R : Gr} {S : Nat → Prop} (h : GAt w b R S) (hO : Ok R) :
    Calls Try.prog 25 #[.pointer (some ⟨b, 0, none⟩)] w fun e w' => ∃ b', e = .returned (.pointer (some ⟨b', 0, none⟩)) ∧ GraphPost w (bkF R) b' w' := by
  have HL := Lib.hid (len_any h)
  have hn := hO.size
  have hmk := makeRows_run R.length (by omega)
  have HG := Lib.hid h
  have HOk := Lib.hid hO
  have HS : Hid (∀ t, BackRel w ((w.alloc (.cells (madeCells #[.slice none 0 0] R.length) 34)).alloc (.cells #[.slice (some ⟨w.heap.size, 0, none⟩) R.length R.length] t)) (w.heap.size + 1) (bkK R 0)) := by
    intro t
    refine ⟨_, gat_new (n := R.length) (g := w.heap.size) (t := t) ?_ ?_ (by omega) (by omega), fun k h => ?_, ((Below.refl _ w).alloc (Nat.le_refl _) _).alloc (by simp) _⟩
    · rw [Below.heap_alloc _ _ _ (by simp)]; exact heap_alloc_new w _
    · have := heap_alloc_new (w.alloc (.cells (madeCells #[.slice none 0 0] R.length) 34)) (.cells #[.slice (some ⟨w.heap.size, 0, none⟩) R.length R.length] t); rwa [World.size_alloc] at this
    · rcases h with rfl | rfl <;> omega
  have HL2 : Hid (∀ t, Calls Try.prog 18 #[.pointer (some ⟨b, 0, none⟩)] ((w.alloc (.cells (madeCells #[.slice none 0 0] R.length) 34)).alloc (.cells #[.slice (some ⟨w.heap.size, 0, none⟩) R.length R.length] t)) fun e w' => e = .returned (.int .i64 (R.length : Int)) ∧ w' = ((w.alloc (.cells (madeCells #[.slice none 0 0] R.length) 34)).alloc (.cells #[.slice (some ⟨w.heap.size, 0, none⟩) R.length R.length] t))) :=
    fun t => len_any (h.still (((Kept.refl _ _).alloc _).alloc _))
  obtain ⟨n, hnR⟩ : ∃ n, n = R.length := ⟨_, rfl⟩
  rw [← hnR] at hn hmk HL HS HL2
  have HN := Lib.hid hnR
  clear h hO hnR
  obtain ⟨i0, hi, hz0, hz1, hz2⟩ := info_parts Try.infoInt
  go_enter Try.func25, Try.ntmps25
  go_wp2_with fail
  refine HL.out.mono ?_
  rintro e w' ⟨rfl, hw⟩
  obtain rfl := hw.symm
  go_wp2_with fail
  refine (HL2.out _).mono ?_
  rintro e w' ⟨rfl, hw⟩
  obtain rfl := hw.symm
  clear hmk
  go_wp2
  have HS1 := Lib.hid (HS.out 49)
  clear HS HL2
  go_loopw [14] (fun v wr => ∃ k : Nat, k ≤ n ∧ v = .int .i64 (k : Int) ∧ BackRel w wr (w.heap.size + 1) (bkK R k)) (fun v _ => n - (intOf v).toNat)
  case atStart => exact ⟨0, Nat.zero_le _, rfl, HS1.out⟩
  case round =>
    obtain ⟨k, hk, rfl, hB⟩ := hrel
    clear HS1
    by_cases hlt : k < n
    · obtain ⟨g, cap, P, c, hrd, hcells⟩ := row_read HG.out (show k < R.length by rw [← HN.out]; exact hlt)
      have hbl := hB.choose_spec.2.2
      obtain ⟨f1, f2⟩ := hrd wr hbl
      rw [← HN.out] at f1
      have HC := Lib.hid hcells
      have HB := Lib.hid hB
      have hlen : (row R k).length ≤ 1024 := by have := HOk.out.len k; have := HOk.out.size; omega
      obtain ⟨m, hm⟩ : ∃ m, m = (row R k).length := ⟨_, rfl⟩
      rw [← hm] at f2 hlen
      have HM := Lib.hid hm
      clear hcells hrd hB hbl hm
      obtain ⟨wo, rfl⟩ : ∃ wo : World, wo = wr := ⟨_, rfl⟩
      go_wp2
      clear f1 f2
      go_loopw [25] (fun v wi => ∃ i : Nat, i ≤ m ∧ v = .int .i64 (i : Int) ∧ BackRel w wi (w.heap.size + 1) (bkI R k i)) (fun v _ => m - (intOf v).toNat)
      case atStart => exact ⟨0, Nat.zero_le _, rfl, HB.out⟩
      case round =>
        obtain ⟨i, hi', rfl, hB⟩ := hrel
        clear HB
        by_cases hlt2 : i < m
        · have hj : (row R k).getD i 0 < R.length := HOk.out.node k _ (by
            have : i < (row R k).length := by rw [← HM.out]; exact hlt2
            simp [List.getD, this])
          obtain ⟨q, rfl, hq⟩ := HC.out i (by rw [← HM.out]; exact hlt2)
          have f3 := hq wr hB.choose_spec.2.2
          obtain ⟨gt, ct, v, e1, e2, e3, hne, hrow, hput⟩ := hB.push (k := k) (j := (row R k).getD i 0) (by rw [bkI_length]; exact hj)
          rw [bkI_length, ← HN.out] at e1 hput
          have hrl := bkI_len HOk.out k i ((row R k).getD i 0) (by rw [← HN.out]; exact hlt)
          rw [← HN.out] at hrl hj
          rw [← bkI_succ (by rw [← HM.out]; exact hlt2)] at hput
          have HP := Lib.hid hput
          have HR := Lib.hid hrow
          clear hput hrow hq hB
          generalize (row R k).getD i 0 = j at *
          have e1a : ∀ o, (wr.alloc o).cell? ⟨w.heap.size + 1, 0, none⟩ = some (.slice (some ⟨gt, 0, none⟩) n ct) := fun o => ((Kept.refl (fun _ => False) wr).alloc o).cell e1 id
          have e2a : ∀ o, (wr.alloc o).cell? ⟨gt, j, none⟩ = some v := fun o => ((Kept.refl (fun _ => False) wr).alloc o).cell e2 id
          generalize hlr : (row (bkI R k i) j).length = r at *
          have HLR := Lib.hid hlr
          have HR' : Hid (wr.ownsRow 0 3 1 v r (nis (row (bkI R k i) j))) := by rw [← hlr]; exact HR.out
          clear hlr HR
          generalize nis (row (bkI R k i) j) = xs at *
          go_wp2
          go_region_law (refine step_append_lies _ rfl (.tmp 40) (.tmp 42) 34 rfl 0 3 i0 (.int .i64 0) 1 8 Try.underlying34 hi hz0 hz1 hz2 rfl (by decide) v r xs (by simp [Act.eval]) ((HR'.out.drew).alloc _) ⟨wr.heap.size, 0, none⟩ 1 1 [.int .i64 (k : Int)] (by simp [Act.eval]) rfl (World.news_of_block (cs := #[.int .i64 (k : Int)]) (heap_alloc_new wr.drew _)) (by intro u hu; simp at hu; subst hu; rfl) (by decide) (by unfold maxLen; omega) (by omega) (by simp) (wr.heap.size + 1) (by simp) ?_; intro g2 cap2 w2 ho2 hg2 hat2 _; obtain ⟨⟨hq1, hq2, hq3⟩, hq4⟩ := HP.out _ _ _ _ _ (((Kept.refl _ wr).drew).alloc _) (by simp) ho2 hg2 hat2)
          all_goals
            have HQ := Lib.hid hq4
            clear hq4 hg2 ho2 hat2 e1a e2a
            go_wp2
            go_roundw
            case rel => exact ⟨i + 1, by omega, by go_num, HQ.out⟩
            case measure => simp [intOf]; omega
        · have HE : Hid (BackRel w wr (w.heap.size + 1) (bkK R (k + 1))) := by
            show BackRel _ _ _ _
            rw [← bkI_full (i := i) (by rw [← HM.out]; omega)]
            exact hB
          clear hB
          go_wp2
          go_roundw
          case rel => exact ⟨k + 1, by omega, by go_num, HE.out⟩
          case measure => simp [intOf]; omega
    · obtain rfl : k = n := by omega
      have HE : Hid (GraphPost w (bkF R) (w.heap.size + 1) wr) := by
        show GraphPost _ _ _ _
        rw [bkF_eq, ← HN.out]
        exact hB
      clear hB
      go_wp2
      go_ret
      exact ⟨_, rfl, HE.out⟩
end Go.Proofs.Ytlcadkhhpnaofaa
