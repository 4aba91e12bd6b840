/-
  segment.Plan.add.
-/
import Derived.Test.YtekhlaodlagbdaaGreatDoorSgS
import Derived.Deep.AppendLies
namespace Go.Proofs.YtekhlaodlagbdaaGreatDoor
set_option maxRecDepth 100000
set_option linter.unusedSimpArgs false
open Go Go.RowKit

theorem set_take {o : List Int} {l : List Nat} {j n : Nat} (h : j < l.length) : Sg.setAll o (l.take (j + 1)) n = (Sg.setAll o (l.take j) n).set (l.getD j 0) (n : Int) := by
  rw [List.take_succ_eq_append_getElem h, Sg.setAll_snoc]
  simp [List.getD, h]

theorem of_cell (o : List Int) {x : Nat} (h : x < o.length) : ((o.map sgV).toArray)[x]? = some (sgV (o.getD x 0)) := by simp [sgV, List.getD, h]
def AddP (p bo bm N Bs : Nat) (st : Sg.Pl) (l : List Nat) (kd : Nat) (w : World) (e : Ending) (w' : World) : Prop :=
  e = .returned (.tuple #[]) ∧ (∃ V vc vk, PlanM p bo bm N Bs (st.add l kd) V vc vk w') ∧ Kept (fun k => k = p ∨ k = bo ∨ Bs ≤ k) w w'

set_option maxHeartbeats 2000000 in
theorem add_any {p bo bm N Bs : Nat} {st : Sg.Pl} {V : Nat → Value} {vc vk : Value} {w : World} (h : PlanM p bo bm N Bs st V vc vk w) {v : Value} {l : List Nat} {kd : Nat} (ho : w.ownsRow Bs 3 1 v l.length (l.map natV)) (hv : v.ownBlock ≠ vk.ownBlock) (hl0 : 0 < l.length) (hl : ∀ x ∈ l, x < N) (hll : l.length ≤ 10000) (hn : st.cells.length ≤ 10000) (hkb : st.kinds.length ≤ 10000) (hBs : Bs ≤ w.heap.size) :
    Calls Tryz.prog 53 #[.pointer (some ⟨p, 0, none⟩), v, .int .i64 (kd : Int)] w (AddP p bo bm N Bs st l kd w) := by
  obtain ⟨i0, hi0, hz0, hz1, hz2⟩ := info_parts Tryz.infoInt
  obtain ⟨i1, hi1, hy0, hy1, hy2⟩ := info_parts Tryz.infoInts
  obtain ⟨g, c, rfl, hg, hcl⟩ := row_cells ho hl0
  obtain ⟨m, hm⟩ : ∃ m, m = l.length := ⟨_, rfl⟩
  obtain ⟨n, hnn⟩ : ∃ n, n = st.cells.length := ⟨_, rfl⟩
  obtain ⟨a2, c2, rfl⟩ := row_slice h.rc
  obtain ⟨a3, c3, rfl⟩ := row_slice h.rk
  have hgne : g ≠ bo := by have := h.ho; omega
  have hgp : g ≠ p := by have := h.hp; omega
  -- what stands behind j cells
  obtain ⟨I, hI⟩ : ∃ I : Nat → World → Prop, I = fun j W => PlanM p bo bm N Bs { st with of := Sg.setAll st.of (l.take j) n } V (.slice a2 st.cells.length c2) (.slice a3 st.kinds.length c3) W ∧ Kept (fun k => k = bo) w W := ⟨_, rfl⟩
  have HII := Lib.hid hI
  have HI0 : Hid (I 0 w) := by show I 0 w; rw [hI]; exact ⟨h, Kept.refl _ _⟩
  have HH := Lib.hid h
  have HO := Lib.hid ho
  have HC := Lib.hid hcl
  have HM := Lib.hid hm
  have HNN := Lib.hid hnn
  have HL := Lib.hid hl
  have HV := Lib.hid hv
  have HKb := Lib.hid hkb
  have hm1 : 1 ≤ m := by omega
  have hm2 : m ≤ 10000 := by omega
  have hn2 : n ≤ 10000 := by omega
  rw [← hm]
  clear h ho hcl hm hl hv hI hl0 hll hn hkb
  go_enter Tryz.func53, Tryz.ntmps53
  go_wp2
  go_loopw [10] (fun i wr => ∃ j : Nat, j ≤ m ∧ i = .int .i64 (j : Int) ∧ I j wr) (fun i _ => m - (intOf i).toNat)
  case atStart => exact ⟨0, Nat.zero_le _, rfl, HI0.out⟩
  case round =>
    obtain ⟨j, hj, rfl, hi⟩ := hrel
    rename World => W
    rw [HII.out] at hi
    obtain ⟨hp, hk⟩ := hi
    have HP := Lib.hid hp
    have HK := Lib.hid hk
    clear HI0
    by_cases hjm : j < m
    · have hjl : j < l.length := by rw [← HM.out]; exact hjm
      have fx := hk.cell (HC.out j hjl) hgne
      have hxm : l.getD j 0 ∈ l := by
        rw [show l.getD j 0 = l[j] by simp [List.getD, hjl]]
        exact List.getElem_mem hjl
      have hxN := HL.out _ hxm
      have d1 : W.cell? ⟨p, 1, none⟩ = some (.slice (some ⟨bo, 0, none⟩) N N) := by rw [blk_cell hp.blk]; rfl
      have d2 : W.cell? ⟨p, 2, none⟩ = some (.slice a2 n c2) := by rw [blk_cell hp.blk, HNN.out]; rfl
      have hol : (Sg.setAll st.of (l.take j) n).length = N := hp.len
      have d3 : W.cell? ⟨bo, l.getD j 0, none⟩ = some (sgV ((Sg.setAll st.of (l.take j) n).getD (l.getD j 0) 0)) := by
        rw [blk_cell hp.of]
        exact of_cell _ (by show l.getD j 0 < (Sg.setAll st.of (l.take j) n).length; omega)
      have d4 : W.frozen? ⟨bo, l.getD j 0, none⟩ = false := blk_free hp.of _
      have HR : Hid (∃ j' : Nat, j' ≤ m ∧ Value.int .i64 ((j : Int) + 1) = .int .i64 (j' : Int) ∧ I j' ((W.setCell ⟨bo, l.getD j 0, none⟩ (.int .i64 (n : Int))).drew)) := by
        refine ⟨j + 1, by omega, by go_num, ?_⟩
        rw [HII.out]
        refine ⟨?_, (hk.setCell (p := ⟨bo, l.getD j 0, none⟩) (.inl rfl) _).drew⟩
        rw [set_take hjl]
        exact (hp.set (n : Int)).still ((Kept.refl _ _).drew)
      generalize (Sg.setAll st.of (l.take j) n).getD (l.getD j 0) 0 = old at *
      generalize l.getD j 0 = x at *
      have k0 : (0 : Int) ≤ (j : Int) := by omega
      have k1 : (j : Int) < (m : Int) := by omega
      have k2 : (x : Int) < (N : Int) := by omega
      have k3 : (0 : Int) ≤ (x : Int) := by omega
      clear hp hk hxm hol HP HK hjl hnn
      go_wp2_with fail
      go_still_tail 11, (by kernel_rfl)
      change wpList _ _ _ _ _ W.drew
      go_wp2
      go_roundw
      case rel => exact HR.out
      case measure => simp [intOf]; omega
    · obtain rfl : j = m := by omega
      have hk' : Kept (fun k => k = p ∨ k = bo ∨ Bs ≤ k) w W := hk.mono (fun k _ h => .inr (.inl h))
      have hpl : PlanM p bo bm N Bs { st with of := Sg.setAll st.of l n } V (.slice a2 st.cells.length c2) (.slice a3 st.kinds.length c3) W := by
        have := hp
        rw [HM.out, List.take_length] at this
        exact this
      obtain ⟨nk, hnk⟩ : ∃ nk, nk = st.kinds.length := ⟨_, rfl⟩
      have hv1 : W.ownsRow Bs 3 1 (.slice (some ⟨g, 0, none⟩) l.length c) l.length (l.map natV) := hk.row HO.out (fun k hk e => by have := (HO.out.lt k hk).1; have := hp.ho; omega)
      have d2 : W.cell? ⟨p, 2, none⟩ = some (.slice a2 n c2) := by rw [blk_cell hp.blk, HNN.out]; rfl
      have hBW := hk'.size
      have HC1 : Hid (∀ W2 g2 cap, (W.alloc (.cells #[.slice (some ⟨g, 0, none⟩) j c] 36)).grownBy W2 (Value.slice a2 n c2).ownBlock → W2.ownsRow Bs 36 1 (.slice (some ⟨g2, 0, none⟩) (n + 1) cap) (n + 1) ((List.range n).map V ++ [.slice (some ⟨g, 0, none⟩) j c]) →
          (W2.cell? ⟨p, 2, none⟩ = some (.slice a2 n c2) ∧ W2.frozen? ⟨p, 2, none⟩ = false) ∧ PlanM p bo bm N Bs { of := Sg.setAll st.of l n, cells := st.cells ++ [l], kinds := st.kinds } (fun s => if s = n then .slice (some ⟨g, 0, none⟩) j c else V s) (.slice (some ⟨g2, 0, none⟩) (n + 1) cap) (.slice a3 st.kinds.length c3) (W2.setCell ⟨p, 2, none⟩ (.slice (some ⟨g2, 0, none⟩) (n + 1) cap)) ∧
            Kept (fun k => k = p ∨ k = bo ∨ Bs ≤ k) w (W2.setCell ⟨p, 2, none⟩ (.slice (some ⟨g2, 0, none⟩) (n + 1) cap))) := by
        intro W2 g2 cap h1 h2
        rw [HNN.out, HM.out] at *
        obtain ⟨r1, r2, r3⟩ := hpl.push_cells hv1 HV.out h1 h2
        exact ⟨r1, r2, hk'.trans r3 (fun _ _ h => h)⟩
      have hrc := hpl.rc
      have HRc : Hid (W.ownsRow Bs 36 1 (.slice a2 n c2) n ((List.range n).map V)) := by show World.ownsRow _ _ _ _ _ _ _; rw [HNN.out]; exact hrc
      have HNe := Lib.hid (World.news_of_block (heap_alloc_new W (.cells #[.slice (some ⟨g, 0, none⟩) j c] 36)))
      have HC2 : Hid (∀ W3 V' vc', PlanM p bo bm N Bs { of := Sg.setAll st.of l n, cells := st.cells ++ [l], kinds := st.kinds } V' vc' (.slice a3 st.kinds.length c3) W3 → Kept (fun k => k = p ∨ k = bo ∨ Bs ≤ k) w W3 → ∀ W4 g4 cap, (W3.alloc (.cells #[.int .i64 (kd : Int)] 3)).grownBy W4 (Value.slice a3 nk c3).ownBlock → W4.ownsRow Bs 3 1 (.slice (some ⟨g4, 0, none⟩) (nk + 1) cap) (nk + 1) (st.kinds.map natV ++ [natV kd]) → ((Value.slice a3 nk c3).ownBlock = some g4 ∨ g4 = (W3.alloc (.cells #[.int .i64 (kd : Int)] 3)).heap.size) →
          (W4.cell? ⟨p, 3, none⟩ = some (.slice a3 nk c3) ∧ W4.frozen? ⟨p, 3, none⟩ = false) ∧ AddP p bo bm N Bs st l kd w (.returned (.tuple #[])) (W4.setCell ⟨p, 3, none⟩ (.slice (some ⟨g4, 0, none⟩) (nk + 1) cap))) := by
        intro W3 V' vc' hp3 hk3 W4 g4 cap h1 h2 h3
        rw [hnk] at *
        obtain ⟨r1, r2, r3⟩ := hp3.push_kinds h1 h2 h3
        refine ⟨r1, rfl, ⟨V', vc', .slice (some ⟨g4, 0, none⟩) (st.kinds.length + 1) cap, ?_⟩, hk3.trans r3 (fun _ _ h => h)⟩
        have e : st.add l kd = { of := Sg.setAll st.of l n, cells := st.cells ++ [l], kinds := st.kinds ++ [kd] } := by unfold Sg.Pl.add; rw [HNN.out]
        rw [e]
        exact r2
      have HNk := Lib.hid hnk
      rw [← hnk] at HC1 HC2
      have hnk2 : nk ≤ 10000 := by rw [hnk]; exact HKb.out
      clear hp hk hk' hpl hv1 hrc HP HK HII HH HO HC HM HL HV hnn hnk
      go_wp2_with (first
        | (at_builtin; (refine wpList_append_lies _ rfl (.tmp 30) (.tmp 32) 37 rfl Bs 36 i1 (.slice none 0 0) 1 24 Tryz.underlying37 hi1 hy0 hy1 hy2 rfl (by decide) (.slice a2 n c2) n ((List.range n).map V) rfl (HRc.out.alloc _) ⟨W.heap.size, 0, none⟩ 1 1 [.slice (some ⟨g, 0, none⟩) j c] rfl rfl (by have := HNe.out; simpa using this) (by intro u hu; simp at hu; subst hu; rfl) (by decide) (by unfold maxLen; omega) (by omega) (by simp; omega) (W.heap.size + 1) (by simp) ?_; intro g2 cap2 w2 ho2 hg2 hat2 hlt2; obtain ⟨⟨q1, q2⟩, q3, q4⟩ := HC1.out w2 g2 cap2 hg2 ho2; have HQ3 := Lib.hid q3; have HQ4 := Lib.hid q4; have q5 : (w2.setCell ⟨p, 2, none⟩ (.slice (some ⟨g2, 0, none⟩) (n + 1) cap2)).cell? ⟨p, 3, none⟩ = some (.slice a3 nk c3) := (by rw [blk_cell q3.blk]; rfl); have HRk' : Hid ((w2.setCell ⟨p, 2, none⟩ (.slice (some ⟨g2, 0, none⟩) (n + 1) cap2)).ownsRow Bs 3 1 (.slice a3 nk c3) nk (st.kinds.map natV)) := (by have := q3.rk; rw [← HNk.out] at this; exact this); have HS3 := Lib.hid q4.size; have HNe3 := Lib.hid (World.news_of_block (heap_alloc_new (w2.setCell ⟨p, 2, none⟩ (.slice (some ⟨g2, 0, none⟩) (n + 1) cap2)) (.cells #[.int .i64 (kd : Int)] 3))); clear ho2 hg2 hat2 hlt2 q3 q4))
        | (at_builtin; (refine wpList_append_lies _ rfl (.tmp 40) (.tmp 42) 36 rfl Bs 3 i0 (.int .i64 0) 1 8 Tryz.underlying36 hi0 hz0 hz1 hz2 rfl (by decide) (.slice a3 nk c3) nk (st.kinds.map natV) rfl ((HRk'.out).alloc _) ⟨w2.heap.size, 0, none⟩ 1 1 [.int .i64 (kd : Int)] (by rfl) rfl (by have := HNe3.out; simpa using this) (by intro u hu; simp at hu; subst hu; rfl) (by decide) (by unfold maxLen; omega) (by omega) (by have := HS3.out; simp at *; omega) ((w2.setCell ⟨p, 2, none⟩ (.slice (some ⟨g2, 0, none⟩) (n + 1) cap2)).alloc (.cells #[.int .i64 (kd : Int)] 3)).heap.size rfl ?_; intro g4 cap4 w4 ho4 hg4 hat4 hlt4; obtain ⟨⟨r1, r2⟩, r3⟩ := HC2.out _ _ _ HQ3.out HQ4.out w4 g4 cap4 hg4 ho4 hat4; have HR3 := Lib.hid r3; clear ho4 hg4 hat4 hlt4 r3)))
      exact bodyPost_end (results_none rfl _ _ _) rfl HR3.out
end Go.Proofs.YtekhlaodlagbdaaGreatDoor
