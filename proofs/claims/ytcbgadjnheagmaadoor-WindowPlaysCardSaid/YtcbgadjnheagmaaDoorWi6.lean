/-
  The numbers between that were not met, as a list.
-/
import Derived.Test.YtcbgadjnheagmaaDoorWi5
namespace Go.Proofs.YtcbgadjnheagmaaDoor
set_option maxRecDepth 100000
set_option linter.unusedSimpArgs false
open Go Go.RowKit
attribute [local go_sem] Oper.semAt_some

namespace Wd
theorem gp_facts : ∀ (pre : List Nat) (s x : Nat), (pre ++ [x]).Pairwise (· < ·) → (∀ y ∈ pre ++ [x], s ≤ y) → endP s pre ≤ x ∧ s ≤ endP s pre ∧ (gp s pre).length ≤ endP s pre - s
  | [], s, x, _, h => ⟨h x (by simp), Nat.le_refl _, by simp [gp]⟩
  | p :: r, s, x, hp, h => by
    rw [List.cons_append, List.pairwise_cons] at hp
    have h1 := gp_facts r (p + 1) x hp.2 (fun y hy => hp.1 y hy)
    have h2 := h p (by simp)
    simp only [endP, gp, List.length_append, List.length_range']
    omega
theorem gp_map (a : Nat) : ∀ (L : List Nat) (s : Nat), gp (a + s) (L.map (a + ·)) = (gp s L).map (a + ·)
  | [], s => rfl
  | p :: r, s => by
    simp only [List.map_cons, gp, List.map_append]
    rw [List.map_add_range', ← gp_map a r (p + 1)]
    congr 2
    omega
theorem gp_early (l e : Nat) : gp (l + 1) (early l e) = miss l e := by
  have := gp_map (l + 1) (posE e) 0
  exact this
theorem posE_sorted (e : Nat) : (posE e).Pairwise (· < ·) := List.Pairwise.filter _ (List.pairwise_lt_range)
theorem early_pre {l e : Nat} (hO : Ok l e) {pre : List Nat} {x : Nat} (h : pre ++ [x] <+: early l e) :
    endP (l + 1) pre ≤ x ∧ l + 1 ≤ endP (l + 1) pre ∧ (gp (l + 1) pre).length ≤ endP (l + 1) pre - (l + 1) ∧ x ≤ 4294967295 ∧ x ≤ l + 64 := by
  have hs : (early l e).Pairwise (· < ·) := by
    unfold early
    rw [List.pairwise_map]
    exact (posE_sorted e).imp (fun h => by omega)
  have hb : ∀ y ∈ early l e, l + 1 ≤ y ∧ y ≤ 4294967295 ∧ y ≤ l + 64 := by
    intro y hy
    unfold early at hy
    obtain ⟨p, hp, rfl⟩ := List.mem_map.1 hy
    have h1 := posE_lt hp
    have h2 : e.testBit p = true := (List.mem_filter.1 hp).2
    have := hO.hb p h2
    omega
  have h1 := gp_facts pre (l + 1) x (hs.sublist h.sublist) (fun y hy => (hb y (h.subset hy)).1)
  have h2 := hb x (h.subset (by simp))
  exact ⟨h1.1, h1.2.1, h1.2.2, h2.2.1, h2.2.2⟩
theorem endP_snoc (s : Nat) (L : List Nat) (x : Nat) : endP s (L ++ [x]) = x + 1 := endP_append s L x
end Wd

/-- The list so far, and the last one that was told. -/
structure MQ (F q mq : Nat) (X : Nat → Prop) (W0 : World) (l0 : Nat) (pre : List Nat) (W : World) : Prop where
  lq : LQ F q X W0 (Wd.gp (l0 + 1) pre) W
  met : W.heap[mq]? = some (.cells #[.int .u32 ((Wd.endP (l0 + 1) pre - 1 : Nat) : Int)] 23 (0, 0))

set_option maxHeartbeats 2000000 in
/-- Missing, whatever it is that is told. -/
theorem missing_gen {w : World} {p : Option Addr} {L : List Nat} {l0 : Nat} (hl0 : l0 ≤ 4294967295)
    (hL : ∀ pre x, pre ++ [x] <+: L → Wd.endP (l0 + 1) pre ≤ x ∧ l0 + 1 ≤ Wd.endP (l0 + 1) pre ∧ (Wd.gp (l0 + 1) pre).length ≤ Wd.endP (l0 + 1) pre - (l0 + 1) ∧ x ≤ 4294967295 ∧ x ≤ l0 + 64)
    (hLast : ∀ W : World, (∀ i, i < w.heap.size → W.heap[i]? = w.heap[i]?) → Calls Tryd.prog 14 #[.pointer p] W fun x w' => x = .returned (.int .u32 (l0 : Nat)) ∧ w' = W)
    (hT : ∀ (w0 : World) (X : Nat → Prop), (∀ i, i < w.heap.size → ¬ X i) → ¬ X (w.heap.size + 1 + 1) → (∀ i, i < w.heap.size → w0.heap[i]? = w.heap[i]?) → w0.cell? ⟨w.heap.size + 1 + 1, 0, none⟩ = some (.pointer p) →
      TellsP (9 - 1) Tryd.prog 23 #[.pointer (some ⟨w.heap.size + 1 + 1, 0, none⟩)] (fun x : Nat => #[.int .u32 (x : Int)]) (fun A B => A = B) (KpF w0.heap.size X) (fun xs _ => xs = L) (fun pre x => pre ++ [x] <+: L) w0) :
    Calls Tryd.prog 13 #[.pointer p] w (RowP w (Wd.gp (l0 + 1) L)) := by
  obtain ⟨i0, hi, hz0, hz1, hz2⟩ := info_parts Tryd.infoU32
  have HLast := Lib.hid hLast
  refine (callsIn_wide (n := 9)).1 ?_
  refine callsIn_of_wp_marks Tryd.func13 rfl trivial ?_ rfl
  simp only [Tryd.ntmps13, List.size_toArray, List.length_cons, List.length_nil, Nat.reduceAdd, Nat.reduceSub, Array.replicate_succ, Array.replicate_zero, List.push_toArray, List.append_toArray, List.nil_append, List.cons_append]
  gi_wp2_with fail
  refine ⟨trivial, (callsIn_wide.2 (HLast.out _ (fun i hi => Below.heap_alloc _ _ _ hi))).mono ?_⟩
  rintro x W0 ⟨rfl, rfl⟩
  gi_wp2_with fail
  refine ⟨trivial, (callsIn_wide.2 (ahead_any _ _)).mono ?_⟩
  rintro x W0 ⟨rfl, hW0⟩
  have hz : W0.heap.size = w.heap.size + 3 := by rw [hW0]; simp
  have hk0 : Kept (fun _ => False) w W0 := by rw [hW0]; exact (((Kept.refl _ w).alloc _).alloc _).alloc _
  have ck : W0.cell? ⟨w.heap.size + 1 + 1, 0, none⟩ = some (.pointer p) := by
    rw [hW0]
    have := heap_alloc_new ((w.alloc (.cells #[.slice none 0 0] 22)).alloc (.cells #[.int .u32 (l0 : Nat)] 23)) (.cells #[.pointer p] 24)
    rw [World.size_alloc, World.size_alloc] at this
    rw [blk_cell this]; rfl
  have bq : W0.heap[w.heap.size]? = some (.cells #[.slice none 0 0] 22 (0, 0)) := by
    rw [hW0, Below.heap_alloc _ _ _ (by simp only [World.size_alloc]; omega), Below.heap_alloc _ _ _ (by simp)]
    exact heap_alloc_new w _
  have bm : W0.heap[w.heap.size + 1]? = some (.cells #[.int .u32 ((l0 + 1 - 1 : Nat) : Int)] 23 (0, 0)) := by
    rw [hW0, Below.heap_alloc _ _ _ (by simp only [World.size_alloc]; omega)]
    have := heap_alloc_new (w.alloc (.cells #[.slice none 0 0] 22)) (.cells #[.int .u32 (l0 : Nat)] 23)
    rw [World.size_alloc] at this
    exact this
  have hsz1 : ((w.alloc (.cells #[.slice none 0 0] 22)).alloc (.cells #[.int .u32 (l0 : Nat)] 23)).heap.size = w.heap.size + 1 + 1 := by simp
  rw [hsz1]
  clear hW0 hsz1 hLast
  obtain ⟨X, hX⟩ : ∃ X : Nat → Prop, X = fun k => k = w.heap.size ∨ k = w.heap.size + 1 := ⟨_, rfl⟩
  have hTells := hT W0 X (fun i hi => by rw [hX]; omega) (by rw [hX]; omega) (fun i hi => hk0.block i hi id) ck
  have hqF : w.heap.size < W0.heap.size := by omega
  have hmF : w.heap.size + 1 < W0.heap.size := by omega
  have hXq : X w.heap.size := by rw [hX]; exact .inl rfl
  have hXm : X (w.heap.size + 1) := by rw [hX]; exact .inr rfl
  have h00 : MQ W0.heap.size w.heap.size (w.heap.size + 1) X W0 l0 [] W0 := ⟨⟨⟨_, bq, ⟨by simp [Wd.gp], .inl ⟨rfl, rfl⟩⟩⟩, Kept.refl _ _⟩, bm⟩
  have HD : Hid (∀ W' M, LQ W0.heap.size w.heap.size X W0 M W' → RowP w M (.returned ((W'.cell? ⟨w.heap.size, 0, none⟩).getD undef)) W') := by
    rintro W' M ⟨⟨v, h1, h2⟩, h3⟩
    refine ⟨v, by rw [blk_cell h1]; rfl, ⟨?_, ?_⟩⟩
    · refine ⟨h2.1, ?_⟩
      rcases h2.2 with h | ⟨g', cap, cur, e1, e2, e3⟩
      · exact .inl h
      · exact .inr ⟨g', cap, cur, e1, by omega, e3⟩
    · refine (hk0.mono (Y := X) (fun _ _ h => h.elim)).trans h3 (fun _ _ h => h) |>.below (fun k hk => ?_) (Nat.le_refl _)
      rw [hX] at hk; omega
  have hStep : ∀ (pre : List Nat) (W W' : World) (row : Option Nat), MQ W0.heap.size w.heap.size (w.heap.size + 1) X W0 l0 pre W → W.grownBy W' row → (∀ r, row = some r → W0.heap.size ≤ r ∧ ∃ o : Obj, W.heap[r]? = some o ∧ o.isCells = false) → MQ W0.heap.size w.heap.size (w.heap.size + 1) X W0 l0 pre W' := by
    intro pre W W' row h hg hr
    exact ⟨h.lq.step rfl hqF hg hr, (hg.block _ (blk_lt h.met) (fun e => by have := (hr _ e.symm).1; omega)).trans h.met⟩
  gi_wp2_with fail
  refine range_stateP (by omega) (gf := 23) (lb := #[.pointer (some ⟨w.heap.size + 1 + 1, 0, none⟩)]) rfl (enters_of Tryd.func23 (by kernel_rfl) rfl)
    (encs := fun x : Nat => #[.int .u32 (x : Int)]) (fun _ => rfl) hTells (Below.refl _ _)
    (fun A C ht => by cases ht; exact KeepsFrom.refl _ _) (fun h k => h.trans k)
    (fun W l' o o' hl' h1 h2 => fun i hi _ => World.putObj_heap_other (by omega))
    (MQ W0.heap.size w.heap.size (w.heap.size + 1) X W0 l0) hStep (fun xs A C h ht => by cases ht; exact h) (fun xs A C row h _ _ => h) h00
    (fun x a' _ => a' = { tmps := #[.pointer p, undef, .slice none 0 0, .pointer (some ⟨w.heap.size, 0, none⟩), .pointer (some ⟨w.heap.size + 1, 0, none⟩), .int .u32 (x : Int), undef, .pointer p, .int .u32 (l0 : Nat), .pointer p, .func (.func 23) #[] #[.pointer (some ⟨w.heap.size + 1 + 1, 0, none⟩)], .int .u32 (x : Int), undef, undef, undef, undef, undef, undef, undef, undef, undef, undef, undef, undef, undef], defers := [] })
    (fun x a' _ A C row h _ _ => h) ?assign ?body ?done
  case assign =>
    intro l' pre x W K hI hK
    gi_wp2
    exact hK _ _ (KeepsFrom.refl _ _) (KpF.refl _ _ _) hI rfl
  case body =>
    rintro l' pre x a' W hl' ⟨hlq, hmet⟩ rfl hlen
    obtain ⟨g1, g2, g3, g4, g5⟩ := hL _ _ hlen
    have hfin : Wd.gp (l0 + 1) (pre ++ [x]) = Wd.gp (l0 + 1) pre ++ List.range' (Wd.endP (l0 + 1) pre) (x - Wd.endP (l0 + 1) pre) := Wd.gp_append _ _ _
    have hend : Wd.endP (l0 + 1) (pre ++ [x]) - 1 = x := by rw [Wd.endP_snoc]; omega
    obtain ⟨G, hG⟩ : ∃ G, G = Wd.gp (l0 + 1) pre := ⟨_, rfl⟩
    obtain ⟨s, hs⟩ : ∃ s, s = Wd.endP (l0 + 1) pre := ⟨_, rfl⟩
    rw [← hG] at hfin hlq g3
    rw [← hs] at hfin hmet g1 g2 g3
    have hWs : W0.heap.size ≤ W.heap.size := hlq.kp.size
    have cm : W.cell? ⟨w.heap.size + 1, 0, none⟩ = some (.int .u32 ((s - 1 : Nat) : Int)) := by rw [blk_cell hmet]; rfl
    have ws : IntKind.u32.wrap (((s - 1 : Nat) : Int) + 1) = (s : Int) := by rw [u32_in (by omega) (by omega)]; omega
    obtain ⟨R, hR⟩ : ∃ R : Act → World → Prop, R = fun a V => roundEnd W0.heap.size (KpF W0.heap.size X) (MQ W0.heap.size w.heap.size (w.heap.size + 1) X W0 l0) (pre ++ [x]) W .normal a V := ⟨_, rfl⟩
    -- what an inner round begins with
    have HS : Hid (∃ i : Nat, s ≤ i ∧ i ≤ x ∧ (Value.int .u32 (s : Int)) = .int .u32 (i : Int) ∧ LQ W0.heap.size w.heap.size X W0 (G ++ List.range' s (i - s)) W ∧ KeepsFrom W0.heap.size W W ∧ KpF W0.heap.size X W W ∧ W.heap[w.heap.size + 1]? = some (.cells #[.int .u32 ((s - 1 : Nat) : Int)] 23 (0, 0))) :=
      ⟨s, Nat.le_refl _, g1, rfl, by rw [Nat.sub_self, List.range'_zero, List.append_nil]; exact hlq, KeepsFrom.refl _ _, KpF.refl _ _ _, hmet⟩
    have HEnd : Hid (∀ V, LQ W0.heap.size w.heap.size X W0 (G ++ List.range' s (x - s)) V → KeepsFrom W0.heap.size W V → KpF W0.heap.size X W V → V.heap[w.heap.size + 1]? = some (.cells #[.int .u32 ((s - 1 : Nat) : Int)] 23 (0, 0)) →
        roundEnd W0.heap.size (KpF W0.heap.size X) (MQ W0.heap.size w.heap.size (w.heap.size + 1) X W0 l0) (pre ++ [x]) W .normal { tmps := #[], defers := [] } (V.setCell ⟨w.heap.size + 1, 0, none⟩ (.int .u32 (x : Int)))) := by
      intro V h1 h2 h3 h4
      have hkS : ∀ k, k ≠ w.heap.size + 1 → (V.setCell ⟨w.heap.size + 1, 0, none⟩ (.int .u32 (x : Int))).heap[k]? = V.heap[k]? := fun k hk => Below.heap_setCell _ _ _ _ hk
      have hKe : Kept (fun k => k = w.heap.size + 1) V (V.setCell ⟨w.heap.size + 1, 0, none⟩ (.int .u32 (x : Int))) := (Kept.refl (fun k => k = w.heap.size + 1) V).setCell (p := ⟨w.heap.size + 1, 0, none⟩) (.inl rfl) _
      refine ⟨h2.trans ⟨hKe.size, fun k o hk ho hc => ?_⟩, h3.trans (fun i hi hx => hkS i (fun e => hx (e ▸ hXm))), ⟨?_, ?_⟩⟩
      · rw [hkS k (by omega)]; exact ho
      · rw [hfin]
        obtain ⟨⟨v, o1, o2⟩, o3⟩ := h1
        refine ⟨⟨v, (hkS _ (by omega)).trans o1, ?_⟩, o3.trans hKe (fun i hi hx => by rw [hx]; exact hXm)⟩
        refine hKe.row o2 (fun k hk e => ?_)
        have := (o2.lt k hk).1; omega
      · rw [hend, blk_set h4]; rfl
    have HSt : Hid (∀ (V V2 : World) (i : Nat) v v', s ≤ i → i < x → V.heap[w.heap.size]? = some (.cells #[v] 22 (0, 0)) → V.ownsRow W0.heap.size 23 1 v (G ++ List.range' s (i - s)).length ((G ++ List.range' s (i - s)).map u32V) → Kept X W0 V → KeepsFrom W0.heap.size W V → KpF W0.heap.size X W V → V.heap[w.heap.size + 1]? = some (.cells #[.int .u32 ((s - 1 : Nat) : Int)] 23 (0, 0)) →
        (V.alloc (.cells #[.int .u32 (i : Int)] 23)).grownBy V2 v.ownBlock → V2.ownsRow W0.heap.size 23 1 v' ((G ++ List.range' s (i - s)).length + 1) ((G ++ List.range' s (i - s)).map u32V ++ [u32V i]) →
        (V2.cell? ⟨w.heap.size, 0, none⟩ = some v ∧ V2.frozen? ⟨w.heap.size, 0, none⟩ = false) ∧ (∃ k : Nat, s ≤ k ∧ k ≤ x ∧ (Value.int .u32 ((i : Int) + 1)) = .int .u32 (k : Int) ∧ LQ W0.heap.size w.heap.size X W0 (G ++ List.range' s (k - s)) (V2.setCell ⟨w.heap.size, 0, none⟩ v') ∧ KeepsFrom W0.heap.size W (V2.setCell ⟨w.heap.size, 0, none⟩ v') ∧ KpF W0.heap.size X W (V2.setCell ⟨w.heap.size, 0, none⟩ v') ∧ (V2.setCell ⟨w.heap.size, 0, none⟩ v').heap[w.heap.size + 1]? = some (.cells #[.int .u32 ((s - 1 : Nat) : Int)] 23 (0, 0)))) := by
      intro V V2 i v v' hi1 hi2 h1 h2 h4 h5 h6 h7 hg ho
      obtain ⟨p1, p2, p3, p4⟩ := LQ.snoc rfl hqF hXq h1 h2 h4 hg ho
      refine ⟨p1, i + 1, by omega, hi2, by push_cast; rfl, ?_, h5.trans p2, h6.trans p3, ?_⟩
      · have : G ++ List.range' s (i + 1 - s) = G ++ List.range' s (i - s) ++ [i] := by
          rw [show i + 1 - s = (i - s) + 1 by omega, List.range'_1_concat, ← List.append_assoc, show s + (i - s) = i by omega]
        rw [this]; exact p4
      · have hne : ∀ k, v.ownBlock = some k → W0.heap.size ≤ k := fun k e => (h2.lt k e).1
        rw [Below.heap_setCell _ _ _ _ (by simp), hg.block _ (by rw [World.size_alloc]; have := h4.size; omega) (fun e => by have := hne _ e.symm; omega), Below.heap_alloc _ _ _ (by have := h4.size; omega)]
        exact h7
    clear hlq hmet hR hfin hend hG hs hTells h00 hqF hmF hXq hXm hX hl' hlen ck bq bm hk0 HD hL hT hStep hz
    gi_wp2
    gi_loopw [6] (fun i wr => ∃ k : Nat, s ≤ k ∧ k ≤ x ∧ i = .int .u32 (k : Int) ∧ LQ W0.heap.size w.heap.size X W0 (G ++ List.range' s (k - s)) wr ∧ KeepsFrom W0.heap.size W wr ∧ KpF W0.heap.size X W wr ∧ wr.heap[w.heap.size + 1]? = some (.cells #[.int .u32 ((s - 1 : Nat) : Int)] 23 (0, 0))) (fun i _ => x - (intOf i).toNat)
    case atStart => exact HS.out
    case round =>
      obtain ⟨k, hk1, hk2, rfl, hq, hkf, hkp, hm⟩ := hrel
      rename World => V
      by_cases hlt : k < x
      · obtain ⟨⟨v1, h1, h2⟩, h4⟩ := hq
        have e1 : decide ((k : Int) < (x : Int)) = true := by simpa using hlt
        have e2 : decide (k < x) = true := by simpa using hlt
        have e3 : IntKind.u32.wrap ((k : Int) + 1) = (k : Int) + 1 := u32_in (by omega) (by omega)
        have c5 : V.cell? ⟨w.heap.size, 0, none⟩ = some v1 := by rw [blk_cell h1]; rfl
        obtain ⟨N, hN⟩ : ∃ N, N = (G ++ List.range' s (k - s)).length := ⟨_, rfl⟩
        have hNb : N ≤ 65 := by rw [hN, List.length_append, List.length_range']; omega
        have hVs : W0.heap.size ≤ V.heap.size := h4.size
        have HV : Hid (V.ownsRow W0.heap.size 23 1 v1 N ((G ++ List.range' s (k - s)).map u32V)) := by show World.ownsRow _ _ _ _ _ _ _; rw [hN]; exact h2
        have HN := Lib.hid (fun V2 v' => HSt.out V V2 k v1 v' hk1 hlt h1 h2 h4 hkf hkp hm)
        rw [← hN] at HN
        have HNe := Lib.hid (World.news_of_block (heap_alloc_new V (.cells #[.int .u32 (k : Int)] 23)))
        have HX := Lib.hid hlt
        clear h1 h2 h4 hN hkf hkp hm hk1 hk2 hlt HSt HEnd HS cm ws hWs g1 g2 g3 g4 g5
        generalize G ++ List.range' s (k - s) = M at *
        gi_wp2_with (gi_at_builtin; refine wpListIn_append_own_at _ rfl _ _ 22 rfl W0.heap.size 23 i0 (.int .u32 0) 1 4 Tryd.underlying22 hi hz0 hz1 hz2 rfl (by decide) _ N _ rfl (HV.out.alloc _) ⟨V.heap.size, 0, none⟩ 1 1 [u32V k] rfl rfl HNe.out (by intro u hu; simp at hu; subst hu; rfl) (by unfold maxLen; omega) (by omega) (by simp; omega) ?_; intro v' W2 hown' hgrow _ hat; obtain ⟨g', cap', rfl⟩ := ownsRow_succ hown'; obtain ⟨⟨hq1, hq2⟩, hq3⟩ := HN.out _ _ hgrow hown'; have HZ := Lib.hid hq3; clear hown' hgrow hq3 hat)
        exact ⟨HZ.out, by simp [intOf]; have := HX.out; omega⟩
      · obtain rfl : k = x := by omega
        have HF := Lib.hid (HEnd.out V hq hkf hkp hm)
        have e1 : decide ((k : Int) < (k : Int)) = false := by simp
        have cm' : V.cell? ⟨w.heap.size + 1, 0, none⟩ = some (.int .u32 ((s - 1 : Nat) : Int)) := by rw [blk_cell hm]; rfl
        have cf' : V.frozen? ⟨w.heap.size + 1, 0, none⟩ = false := blk_free hm 0
        clear hq hkf hkp hm HEnd HSt HS cm
        gi_wp2
        exact HF.out
  case done =>
    rintro D xs W hD rfl hI hK
    have hI2 := hStep _ _ (W.putObj D (.deferred none)) _ hI (grownBy_putObj' W D (.deferred none)) (fun r e => by cases e; exact ⟨hD, _, hK, rfl⟩)
    have HQ := Lib.hid (HD.out _ _ hI2.lq)
    obtain ⟨⟨⟨v, h1, h2⟩, h3⟩, _⟩ := hI
    have c5 : W.cell? ⟨w.heap.size, 0, none⟩ = some v := by rw [blk_cell h1]; rfl
    have c6 : (W.putObj D (.deferred none)).cell? ⟨w.heap.size, 0, none⟩ = some v := by
      have : (W.putObj D (.deferred none)).heap[w.heap.size]? = W.heap[w.heap.size]? := World.putObj_heap_other (by omega)
      exact (World.cell?_of_block this).trans c5
    have HQ2 : Hid (RowP w (Wd.gp (l0 + 1) xs) (.returned v) (W.putObj D (.deferred none))) := by
      have := HQ.out
      rw [c6] at this
      exact this
    clear HQ h1 h2 h3 hI2 hTells h00 hT
    gi_wp2
    refine ⟨by simp, .inl ⟨_, _, rfl, run_takeDeferred hK, ?_⟩⟩
    refine ⟨v, ?_, HQ2.out⟩
    exact (results_tmp (fn := Tryd.f13) (t := 2) rfl _ _ _)
theorem missing_any {w : World} {b l e : Nat} (hW : WinAt w b l e) (hO : Wd.Ok l e) :
    Calls Tryd.prog 13 #[.pointer (some ⟨b, 0, none⟩)] w (RowP w (Wd.miss l e)) := by
  rw [← Wd.gp_early]
  have hb := blk_lt hW
  refine missing_gen (p := some ⟨b, 0, none⟩) hO.hl (fun pre x h => Wd.early_pre hO h) (fun W h => last_any ((h b hb).trans hW)) ?_
  intro w0 X h1 h2 h3 h4
  exact ahead_tells 8 (by omega) ((h3 b hb).trans hW) hO h4 (h1 b hb) h2
theorem missing_none (w : World) : Calls Tryd.prog 13 #[.pointer none] w (RowP w []) :=
  missing_gen (p := none) (l0 := 0) (L := []) (by omega) (fun pre x h => by have := h.length_le; simp at this) (fun W _ => last_none W) (fun w0 X h1 h2 h3 h4 => ahead_none 8 h4)
end Go.Proofs.YtcbgadjnheagmaaDoor
