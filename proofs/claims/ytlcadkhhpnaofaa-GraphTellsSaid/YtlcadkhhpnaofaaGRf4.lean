/-
  The document's Strong: its walk.
-/
import Derived.Test.YtlcadkhhpnaofaaGRf3
namespace Go.Proofs.Ytlcadkhhpnaofaa
set_option maxRecDepth 100000
open Go Go.RowKit Gq

/-- The table of distances: its rows so far. -/
structure AllI (w : World) (E : Nat → Nat → Bool) (n k : Nat) (v : Value) (G : Nat → Nat) (wr : World) : Prop where
  own : wr.ownsRow 0 34 1 v k ((List.range k).map fun i => Value.slice (some ⟨G i, 0, none⟩) n n)
  rows : ∀ i, i < k → ∃ D, wr.heap[G i]? = some (.cells (ic D) 3 (0, 0)) ∧ FarA (RelR E false (-1)) n i D
  pr : ∀ i, i < k → v.ownBlock ≠ some (G i)
  be : Below w.heap.size w wr
  vl : ∀ g, v.ownBlock = some g → w.heap.size ≤ g

theorem AllI.below {w wr w1 : World} {E : Nat → Nat → Bool} {n k : Nat} {v : Value} {G : Nat → Nat} (h : AllI w E n k v G wr) (hb : Below wr.heap.size wr w1) : AllI w E n k v G w1 :=
  ⟨(Kept.of_below (X := fun _ => False) hb (Nat.le_refl _)).row h.own (fun _ _ => id), fun i hi => by
    obtain ⟨D, h1, h2⟩ := h.rows i hi
    exact ⟨D, (hb.block _ (blk_lt h1)).trans h1, h2⟩, h.pr, h.be.trans (hb.mono h.be.size), h.vl⟩
theorem AllI.grow {w w1 w2 : World} {E : Nat → Nat → Bool} {n k g g2 cap : Nat} {v : Value} {G : Nat → Nat} {o : Obj} {D : List Int} (h : AllI w E n k v G w1) (hD : w1.heap[g]? = some (.cells (ic D) 3 (0, 0))) (hF : FarA (RelR E false (-1)) n k D)
    (hgv : v.ownBlock ≠ some g) (hg : (w1.alloc o).grownBy w2 v.ownBlock) (ho2 : w2.ownsRow 0 34 1 (.slice (some ⟨g2, 0, none⟩) (k + 1) cap) (k + 1) (((List.range k).map fun i => Value.slice (some ⟨G i, 0, none⟩) n n) ++ [.slice (some ⟨g, 0, none⟩) n n])) (hat : v.ownBlock = some g2 ∨ w1.heap.size ≤ g2) :
    ∃ G', AllI w E n (k + 1) (.slice (some ⟨g2, 0, none⟩) (k + 1) cap) G' w2 := by
  have hblk : ∀ j o', w1.heap[j]? = some o' → v.ownBlock ≠ some j → w2.heap[j]? = some o' := by
    intro j o' hj hv
    have hlt := blk_lt hj
    rw [hg.block j (by simp; omega) (fun e => hv e.symm), Below.heap_alloc _ _ _ hlt]
    exact hj
  have hz := h.be.size
  refine ⟨fun i => if i < k then G i else g, ?_, fun i hi => ?_, fun i hi e => ?_, ((h.be.alloc hz _).grown hg (by simp; omega) (fun j hj => h.vl j hj)), fun g' hg' => ?_⟩
  · have e : ((List.range (k + 1)).map fun i => Value.slice (some ⟨if i < k then G i else g, 0, none⟩) n n) = ((List.range k).map fun i => Value.slice (some ⟨G i, 0, none⟩) n n) ++ [.slice (some ⟨g, 0, none⟩) n n] := by
      rw [List.range_succ, List.map_append]
      congr 1
      · apply List.map_congr_left
        intro i hi
        rw [if_pos (List.mem_range.1 hi)]
      · simp
    rw [e]
    exact ho2
  · by_cases e : i < k
    · rw [if_pos e]
      obtain ⟨D', h1, h2⟩ := h.rows i e
      exact ⟨D', hblk _ _ h1 (h.pr i e), h2⟩
    · rw [if_neg e]
      obtain rfl : i = k := by omega
      exact ⟨D, hblk _ _ hD hgv, hF⟩
  · simp only [Value.ownBlock, Option.some.injEq] at e
    by_cases e1 : i < k
    · rw [if_pos e1] at e
      rcases hat with h1 | h1
      · exact h.pr i e1 (by rw [h1, e])
      · obtain ⟨D', h2, _⟩ := h.rows i e1
        have := blk_lt h2; omega
    · rw [if_neg e1] at e
      rcases hat with h1 | h1
      · exact hgv (by rw [h1, e])
      · have := blk_lt hD; omega
  · simp only [Value.ownBlock, Option.some.injEq] at hg'
    subst hg'
    rcases hat with h1 | h1
    · exact h.vl _ h1
    · omega

/-- What is read of it. -/
theorem AllI.read {w wr w2 : World} {E : Nat → Nat → Bool} {n q a b : Nat} {v : Value} {G : Nat → Nat} (h : AllI w E n n v G wr) (hk : Kept (fun k => k = q) wr w2) (hq : wr.heap.size ≤ q) (ha : a < n) (hb : b < n) :
    ∃ g cap p y, v = .slice (some ⟨g, 0, none⟩) n cap ∧ w2.cell? ⟨g, a, none⟩ = some (.slice (some ⟨p, 0, none⟩) n n) ∧ w2.cell? ⟨p, b, none⟩ = some (.int .i64 y) ∧ (0 ≤ y ↔ RchA (RelR E false (-1)) n a b) := by
  have ho := h.own
  obtain ⟨D, h1, h2⟩ := h.rows a ha
  rcases h.own.2 with ⟨rfl, h0⟩ | ⟨g, cap, cur, rfl, _⟩
  · omega
  · have hgl := (World.ownsRow.lt ho g rfl).2
    refine ⟨g, cap, G a, dg D b, rfl, ?_, ?_, h2.reach b⟩
    · have hc : wr.cell? ⟨g, a, none⟩ = some (.slice (some ⟨G a, 0, none⟩) n n) := by
        rw [World.ownsRow.cellAt ho a (by omega)]
        simp [ha]
      exact hk.cell hc (fun e => by have : g = q := e; omega)
    · exact hk.cell (ic_cell h1 (by rw [h2.len]; exact hb)) (fun e => by have : G a = q := e; have := blk_lt h1; omega)

/-- Numbers so far. -/
structure StF (H : Nat → Nat) (n a : Nat) (F : List Int) (part : Nat) : Prop where
  len : F.length = n
  part : part = (numG H a).1.length
  at_ : ∀ i, i < a → dg F i = ((nv (numG H a).2 i : Nat) : Int)
theorem StF.old {H : Nat → Nat} {n a b part : Nat} {F : List Int} (h : StF H n a F part) (ha : a < n) (hb : b < a) (he : H b = H a) : StF H n (a + 1) ((F.set a (-1)).set a (dg F b)) part := by
  have p := numP H a
  have hm : H a ∈ (numG H a).1 := (p.mem _).2 ⟨b, hb, he⟩
  have e := numG_succ H a
  have ex : (numG H (a + 1)) = ((numG H a).1, (numG H a).2 ++ [(numG H a).1.idxOf (H a)]) := by
    rw [e]; unfold num1; rw [if_pos hm]
  refine ⟨by simpa using h.len, by rw [ex]; exact h.part, fun i hi => ?_⟩
  rw [ex]
  rw [dg_set (by simp; rw [h.len]; exact ha)]
  by_cases e1 : i = a
  · subst e1
    rw [if_pos rfl, h.at_ b hb, p.at_ b hb, he]
    have := nv_snoc_eq (l := (numG H i).2) (x := (numG H i).1.idxOf (H i))
    rw [p.len] at this
    exact congrArg Int.ofNat this.symm
  · rw [if_neg e1, dg_set (by rw [h.len]; exact ha), if_neg e1, h.at_ i (by omega), nv_snoc_lt (by rw [p.len]; omega)]
theorem StF.new {H : Nat → Nat} {n a part : Nat} {F : List Int} (h : StF H n a F part) (ha : a < n) (hno : ∀ b, b < a → H b ≠ H a) : StF H n (a + 1) ((F.set a (-1)).set a (part : Int)) (part + 1) := by
  have p := numP H a
  have hm : H a ∉ (numG H a).1 := fun hh => by
    obtain ⟨b, hb, he⟩ := (p.mem _).1 hh
    exact hno b hb he
  have e := numG_succ H a
  have ex : (numG H (a + 1)) = ((numG H a).1 ++ [H a], (numG H a).2 ++ [(numG H a).1.length]) := by
    rw [e]; unfold num1; rw [if_neg hm, idx_out hm]
  refine ⟨by simpa using h.len, by rw [ex, h.part]; simp, fun i hi => ?_⟩
  rw [ex]
  rw [dg_set (by simp; rw [h.len]; exact ha)]
  by_cases e1 : i = a
  · subst e1
    rw [if_pos rfl, h.part]
    have := nv_snoc_eq (l := (numG H i).2) (x := (numG H i).1.length)
    rw [p.len] at this
    exact congrArg Int.ofNat this.symm
  · rw [if_neg e1, dg_set (by rw [h.len]; exact ha), if_neg e1, h.at_ i (by omega), nv_snoc_lt (by rw [p.len]; omega)]
theorem StF.le {H : Nat → Nat} {n a part : Nat} {F : List Int} (h : StF H n a F part) : part ≤ a := by
  rw [h.part]
  have : ∀ k, (numG H k).1.length ≤ k := by
    intro k
    induction k with
    | zero => simp [numG]
    | succ k ih =>
      rw [numG_succ]; unfold num1
      split
      · exact Nat.le_succ_of_le ih
      · simp; exact ih
  exact this a
theorem StF.all {H : Nat → Nat} {n part : Nat} {F : List Int} (h : StF H n n F part) : F = ints (numG H n).2 := by
  have p := numP H n
  refine dg_ext (by rw [h.len, ints_length, p.len]) fun i hi => ?_
  rw [h.len] at hi
  rw [h.at_ i hi]
  unfold dg ints nv
  have : i < (numG H n).2.length := by rw [p.len]; exact hi
  simp [List.getD, this]

/-- A list that is told. -/
def RefL (w : World) (l : List Nat) (e : Ending) (w' : World) : Prop := ∃ v, e = .returned v ∧ IsL w' v (ints l) ∧ Below w.heap.size w w'

set_option maxHeartbeats 4000000 in
theorem rStrong_any {w : World} {r n : Nat} {E : Nat → Nat → Bool} {Z : Nat → Prop} (h : RAt w r n E Z) (hn : n ≤ 1024) (H : Nat → Nat) (hH : ∀ i j, i < n → j < n → ((RchA (RelR E false (-1)) n i j ∧ RchA (RelR E false (-1)) n j i) ↔ H i = H j)) :
    Calls Try.prog 21 #[.pointer (some ⟨r, 0, none⟩)] w (RefL w (numG H n).2) := by
  obtain ⟨i0, hi, hz0, hz1, hz2⟩ := info_parts Try.infoRows
  have HH := Lib.hid hH
  have HR := Lib.hid h
  obtain ⟨A0, cap0, hc0⟩ := h.form
  clear h hH
  go_enter Try.func21, Try.ntmps21
  go_wp2
  clear hc0
  go_loopw [4, 5] (fun v u wr => ∃ (k : Nat) (G : Nat → Nat), k ≤ n ∧ u = .int .i64 (k : Int) ∧ AllI w E n k v G wr) (fun _ u _ => n - (intOf u).toNat)
  case atStart => exact ⟨0, fun _ => 0, Nat.zero_le _, rfl, World.ownsRow_nil _ _ _ _, fun i hi => by omega, fun i hi => by omega, Below.refl _ _, fun g hg => by simp [Value.ownBlock] at hg⟩
  case round =>
    obtain ⟨k, G, hk, rfl, hall⟩ := hrel
    have HA := Lib.hid hall
    clear hall
    by_cases hlt : k < n
    · have HD := Lib.hid (rDist_any (HR.out.below HA.out.be) hn hlt false (-1))
      go_wp2_with fail
      refine HD.out.mono ?_
      rintro e w1 ⟨g, D, rfl, hd, hf⟩
      have HA1 := Lib.hid (HA.out.below hd.be)
      have hgv : u4.ownBlock ≠ some g := fun e => by have := (World.ownsRow.lt HA.out.own g e).2; have := hd.lo; omega
      have HG : Hid (∀ o g2 cap2 w2, w2.ownsRow 0 34 1 (.slice (some ⟨g2, 0, none⟩) (k + 1) cap2) (k + 1) (((List.range k).map fun i => Value.slice (some ⟨G i, 0, none⟩) n n) ++ [.slice (some ⟨g, 0, none⟩) n n]) → (w1.alloc o).grownBy w2 u4.ownBlock → (u4.ownBlock = some g2 ∨ g2 = w1.heap.size + 1) → ∃ G', AllI w E n (k + 1) (.slice (some ⟨g2, 0, none⟩) (k + 1) cap2) G' w2) :=
        fun o g2 cap2 w2 h1 h2 h3 => HA1.out.grow hd.blk hf hgv h2 h1 (h3.imp id (fun h => by omega))
      have HO := Lib.hid HA1.out.own
      have hnew := World.news_of_block (heap_alloc_new w1 (.cells #[.slice (some ⟨g, 0, none⟩) n n] 34))
      have HNEW : Hid (∀ j x, [Value.slice (some ⟨g, 0, none⟩) n n][j]? = some x → (w1.alloc (.cells #[.slice (some ⟨g, 0, none⟩) n n] 34)).cell? ((⟨w1.heap.size, 0, none⟩ : Addr).add j) = some x) := by
        show ∀ j x, _
        simpa using hnew
      clear HA HA1 HD hd hf hgv hnew
      generalize ((List.range k).map fun i => Value.slice (some ⟨G i, 0, none⟩) n n) = xs at *
      go_wp2_with (at_builtin; refine wpList_append_lies _ rfl (.tmp 20) (.tmp 24) 47 rfl 0 34 i0 (.slice none 0 0) 1 24 Try.underlying47 hi hz0 hz1 hz2 rfl (by decide) u4 k xs rfl (HO.out.alloc _) ⟨w1.heap.size, 0, none⟩ 1 1 [.slice (some ⟨g, 0, none⟩) n n] rfl rfl HNEW.out (by intro u hu; simp at hu; subst hu; rfl) (by decide) (by unfold maxLen; omega) (by omega) (Nat.zero_le _) (w1.heap.size + 1) (by simp) ?_; intro g2 cap2 w2 ho2 hg2 hat2 hlt3; obtain ⟨G', hq⟩ := HG.out _ _ _ _ ho2 hg2 hat2; have HQ := Lib.hid hq; clear hq ho2 hg2 hat2 hlt3 HG)
      go_roundw
      case rel => exact ⟨k + 1, G', by omega, by go_num, HQ.out⟩
      case measure => simp [intOf]; omega
    · obtain rfl : k = n := by omega
      rename World => wa
      have hmk := makeInts_run k (by omega)
      obtain ⟨q, hq⟩ : ∃ q, q = wa.heap.size := ⟨_, rfl⟩
      have H0 : Hid ((wa.alloc (.cells (madeCells #[.int .i64 0] k) 3)).heap[q]? = some (.cells (ic (List.replicate k 0)) 3 (0, 0)) ∧ Kept (fun j => j = q) wa (wa.alloc (.cells (madeCells #[.int .i64 0] k) 3))) := by
        refine ⟨?_, (Kept.refl _ wa).alloc _⟩
        rw [hq, ← ic_made]; exact heap_alloc_new wa _
      have hqv : Hid (wa.heap.size ≤ q) := by show _ ≤ _; omega
      go_wp2
      rw [← hq]
      clear hmk hq
      generalize wa.alloc (.cells (madeCells #[.int .i64 0] k) 3) = w1 at *
      go_loopw [7, 8] (fun tp u W => ∃ (a part : Nat) (F : List Int), a ≤ k ∧ u = .int .i64 (a : Int) ∧ tp = .int .i64 (part : Int) ∧ W.heap[q]? = some (.cells (ic F) 3 (0, 0)) ∧ Kept (fun j => j = q) wa W ∧ StF H k a F part) (fun _ u _ => k - (intOf u).toNat)
      case atStart => exact ⟨0, 0, _, Nat.zero_le _, rfl, rfl, H0.out.1, H0.out.2, by simp, rfl, fun i hi => by omega⟩
      case round =>
        rename World => W
        obtain ⟨a, part, F, ha, rfl, rfl, hF, hkp, hst⟩ := hrel
        clear H0
        have HF := Lib.hid hF
        have HK := Lib.hid hkp
        have HS := Lib.hid hst
        have hpl := hst.le
        clear hF hkp hst
        by_cases hal : a < k
        · have a0 : (0 : Int) ≤ (a : Int) := by omega
          have a1 : (a : Int) < (k : Int) := by omega
          have fc := ic_cell HF.out (i := a) (by rw [HS.out.len]; exact hal)
          have fz := blk_free HF.out a
          have set1 : ∀ (W' : World) (F' : List Int) (j : Nat) (x : Int), W'.heap[q]? = some (.cells (ic F') 3 (0, 0)) ∧ Kept (fun j => j = q) wa W' → (W'.setCell ⟨q, j, none⟩ (.int .i64 x)).heap[q]? = some (.cells (ic (F'.set j x)) 3 (0, 0)) ∧ Kept (fun j => j = q) wa (W'.setCell ⟨q, j, none⟩ (.int .i64 x)) := by
            intro W' F' j x ⟨h1, h2⟩
            refine ⟨?_, h2.setCell (p := ⟨q, j, none⟩) (.inl rfl) _⟩
            have := heap_setCell_same W' q j _ 3 (.int .i64 x) h1
            rw [ic_set] at this
            exact this
          have SET := Lib.hid set1
          have H1 := Lib.hid (SET.out _ _ a (-1) ⟨HF.out, HK.out⟩)
          generalize dg F a = y0 at *
          clear HF HK set1
          go_wp2
          generalize W.setCell ⟨q, a, none⟩ (.int .i64 (-1)) = W1 at *
          clear fc fz
          go_loopw [9] (fun u W2 => ∃ b : Nat, b ≤ a ∧ u = .int .i64 (b : Int) ∧ (W2.heap[q]? = some (.cells (ic (F.set a (-1))) 3 (0, 0)) ∧ Kept (fun j => j = q) wa W2) ∧ ∀ b', b' < b → H b' ≠ H a) (fun u _ => a - (intOf u).toNat)
          case atStart => exact ⟨0, Nat.zero_le _, rfl, H1.out, fun b' hb => by omega⟩
          case round =>
            rename World => W2
            obtain ⟨b, hb, rfl, hw2, hno⟩ := hrel
            clear H1
            have HW := Lib.hid hw2
            have HNo := Lib.hid hno
            clear hw2 hno
            have hl1 : (F.set a (-1)).length = k := by simpa using HS.out.len
            by_cases hbl : b < a
            · obtain ⟨g, cap, p1, y1, rfl, f1, f2, hy1⟩ := HA.out.read HW.out.2 hqv.out hal (b := b) (by omega)
              obtain ⟨g', cap', p2, y2, e, f3, f4, hy2⟩ := HA.out.read HW.out.2 hqv.out (a := b) (b := a) (by omega) hal
              obtain ⟨rfl, rfl⟩ : g = g' ∧ cap = cap' := by
                simp only [Value.slice.injEq, Option.some.injEq, Addr.mk.injEq] at e
                exact ⟨e.1.1, e.2.2⟩
              clear e
              have b0 : (0 : Int) ≤ (b : Int) := by omega
              have b1 : (b : Int) < (k : Int) := by omega
              have hHb := (HH.out a b hal (by omega))
              rw [← hy1, ← hy2] at hHb
              have HHb := Lib.hid hHb
              clear hy1 hy2 hHb
              have fb : W2.cell? ⟨q, b, none⟩ = some (.int .i64 (dg F b)) := by
                rw [ic_cell HW.out.1 (i := b) (by rw [hl1]; omega), dg_set (by rw [HS.out.len]; exact hal), if_neg (by omega)]
              have fa : W2.cell? ⟨q, a, none⟩ = some (.int .i64 (-1)) := by
                rw [ic_cell HW.out.1 (i := a) (by rw [hl1]; exact hal), dg_set (by rw [HS.out.len]; exact hal), if_pos rfl]
              have fz := blk_free HW.out.1 a
              have hpos : 0 ≤ dg F b := by rw [HS.out.at_ b hbl]; omega
              have HOld : Hid (H b = H a → (W2.setCell ⟨q, a, none⟩ (.int .i64 (dg F b))).heap[q]? = some (.cells (ic ((F.set a (-1)).set a (dg F b))) 3 (0, 0)) ∧ Kept (fun j => j = q) wa (W2.setCell ⟨q, a, none⟩ (.int .i64 (dg F b))) ∧ StF H k (a + 1) ((F.set a (-1)).set a (dg F b)) part) := fun he =>
                ⟨(SET.out _ _ a _ HW.out).1, (SET.out _ _ a _ HW.out).2, HS.out.old hal hbl he⟩
              generalize hx : dg F b = x at *
              have HX := Lib.hid hx
              clear hx hl1
              have hdx : decide (x < 0) = false := decide_eq_false (by omega)
              by_cases h1 : 0 ≤ y1
              · have d1 : decide (0 ≤ y1) = true := decide_eq_true h1
                by_cases h2 : 0 ≤ y2
                · have d2 : decide (0 ≤ y2) = true := decide_eq_true h2
                  have HQ := Lib.hid (HOld.out (HHb.out.1 ⟨h1, h2⟩).symm)
                  clear HOld HNo HW
                  go_wp2
                  go_roundw
                  case rel => exact ⟨a + 1, part, _, by omega, by go_num, rfl, HQ.out.1, HQ.out.2.1, HQ.out.2.2⟩
                  case measure => simp [intOf]; omega
                · have d2 : decide (0 ≤ y2) = false := decide_eq_false h2
                  have HQ : Hid (∀ b', b' < b + 1 → H b' ≠ H a) := fun b' hb' e => by
                    by_cases e1 : b' = b
                    · subst e1; exact h2 (HHb.out.2 e.symm).2
                    · exact HNo.out b' (by omega) e
                  clear HOld HNo fb fa fz
                  go_wp2
                  go_roundw
                  case rel => exact ⟨b + 1, by omega, by go_num, HW.out, HQ.out⟩
                  case measure => simp [intOf]; omega
              · have d1 : decide (0 ≤ y1) = false := decide_eq_false h1
                have HQ : Hid (∀ b', b' < b + 1 → H b' ≠ H a) := fun b' hb' e => by
                  by_cases e1 : b' = b
                  · subst e1; exact h1 (HHb.out.2 e.symm).1
                  · exact HNo.out b' (by omega) e
                clear HOld HNo fb fa fz
                go_wp2
                go_roundw
                case rel => exact ⟨b + 1, by omega, by go_num, HW.out, HQ.out⟩
                case measure => simp [intOf]; omega
            · obtain rfl : b = a := by omega
              have fa : W2.cell? ⟨q, b, none⟩ = some (.int .i64 (-1)) := by
                rw [ic_cell HW.out.1 (i := b) (by rw [hl1]; exact hal), dg_set (by rw [HS.out.len]; exact hal), if_pos rfl]
              have fz := blk_free HW.out.1 b
              have HQ : Hid ((W2.setCell ⟨q, b, none⟩ (.int .i64 (part : Int))).heap[q]? = some (.cells (ic ((F.set b (-1)).set b (part : Int))) 3 (0, 0)) ∧ Kept (fun j => j = q) wa (W2.setCell ⟨q, b, none⟩ (.int .i64 (part : Int))) ∧ StF H k (b + 1) ((F.set b (-1)).set b (part : Int)) (part + 1)) :=
                ⟨(SET.out _ _ b _ HW.out).1, (SET.out _ _ b _ HW.out).2, HS.out.new hal HNo.out⟩
              clear HW HNo hl1 SET HS
              go_wp2
              go_roundw
              case rel => exact ⟨b + 1, part + 1, _, by omega, by go_num, by go_num, HQ.out.1, HQ.out.2.1, HQ.out.2.2⟩
              case measure => simp [intOf]; omega
        · obtain rfl : a = k := by omega
          have HQ : Hid (RefL w (numG H a).2 (.returned (.slice (some ⟨q, 0, none⟩) a a)) W) := by
            have hl := isL_of (c := a) HF.out
            rw [HS.out.len, HS.out.all] at hl
            exact ⟨_, rfl, hl, HA.out.be.trans (HK.out.below (by rintro j rfl; exact Nat.le_trans HA.out.be.size hqv.out) HA.out.be.size)⟩
          clear HF HK HS HA
          go_wp2
          go_ret
          exact HQ.out
end Go.Proofs.Ytlcadkhhpnaofaa
