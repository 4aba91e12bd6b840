/-
  The document's Read: its walk.
-/
import Derived.Test.YtmfbokaaoffdnaaDoorWrGc
namespace Go.Proofs.YtmfbokaaoffdnaaDoor
set_option maxRecDepth 100000
set_option linter.unusedSimpArgs false
open Go Go.RowKit Wr
attribute [local go_sem] Oper.semAt_some

theorem row_at {W : World} {base : Nat} {v : Value} {l : List Nat} (h : W.ownsRow base 5 1 v l.length (l.map byV)) : ∃ ad c, v = .slice ad l.length c ∧ BytesAt W ad l := by
  by_cases h0 : l = []
  · subst h0
    rcases h.2 with ⟨rfl, _⟩ | ⟨g, cap, cur, rfl, _⟩
    · exact ⟨_, _, rfl, fun j hj => by simp at hj⟩
    · exact ⟨_, _, rfl, fun j hj => by simp at hj⟩
  · obtain ⟨g, cap, rfl, _, hb⟩ := row_blk h h0
    exact ⟨_, _, rfl, hb.at_⟩
/-- While every other byte is gathered. -/
structure EvI (w : World) (l : List Nat) (j : Nat) (v : Value) (W : World) : Prop where
  below : Below w.heap.size w W
  rb : W.heap[w.heap.size]? = some (.cells pktZ 28 (0, 0))
  row : W.ownsRow (w.heap.size + 1) 5 1 v (evs l j).length ((evs l j).map byV)

set_option maxHeartbeats 4000000 in
theorem rread_no {w : World} {A : Option Addr} {l : List Nat} (cap : Nat) (hB : BytesAt w A l) (hlt : ∀ c ∈ l, c < 256) (hl : l.length ≤ 1000) (hOK : okP (gss l) = false) :
    Calls Tryd.prog 13 #[.slice A l.length cap] w (ReadPost w l) := by
  obtain ⟨P, hP⟩ : ∃ P : Ending → World → Prop, P = ReadPost w l := ⟨_, rfl⟩
  have HQ0 : Hid (readF l = none → ∀ W, Below w.heap.size w W → P (.returned (.tuple #[.agg pktZ, .int .i64 70])) W) := by rw [hP]; exact fun h W hb => ⟨hb, .inl ⟨h, rfl⟩⟩
  have HQ1 : Hid (∀ p A2 cap2 W, readF l = some p → Below w.heap.size w W → ClaimsAt W A2 p.msg.claims → P (.returned (.tuple #[pktA p A2 p.msg.claims.length cap2, .int .i64 0])) W) := by rw [hP]; exact fun p A2 cap2 W h hb hc => ⟨hb, .inr ⟨p, A2, cap2, h, rfl, hc⟩⟩
  rw [← hP]
  clear hP
  have HB := Lib.hid hB
  have HLT := Lib.hid hlt
  have HLL := Lib.hid hl
  have HCE : Hid (∀ W q, Below w.heap.size w W → q < l.length → ∃ a, A = some a ∧ W.cell? (a.add q) = some (.int .u8 ((l.getD q 0 : Nat) : Int))) := fun W q hb hq => (hB.below hb) q hq
  have HCV : Hid (∀ W, Below w.heap.size w W → (convert 34 9 (.slice A l.length cap)).run Tryd.prog W = .ok (.string (strN l)) W) := fun W hb => conv_bytes cap (hB.below hb) hlt
  obtain ⟨n, hn⟩ : ∃ n, n = l.length := ⟨_, rfl⟩
  have HN := Lib.hid hn
  rw [← hn] at hl HCE HCV ⊢
  obtain ⟨i0, hi, hz0, hz1, hz2⟩ := info_parts Tryd.infoU8
  have hrb := World.alloc_heap_new w (.cells pktZ 28)
  have HS : Hid (∃ j : Nat, j ≤ half n ∧ (Value.int .i64 0) = .int .i64 ((2 * j : Nat) : Int) ∧ EvI w l j (.slice none 0 0) (w.alloc (.cells pktZ 28))) :=
    ⟨0, Nat.zero_le _, rfl, (Below.refl _ w).alloc (Nat.le_refl _) _, hrb, ⟨by simp [evs], .inl ⟨rfl, rfl⟩⟩⟩
  clear hB hlt hn hrb
  go_enter Tryd.func13, Tryd.ntmps13
  go_wp2
  go_loopw [4, 5] (fun v i wr => ∃ j : Nat, j ≤ half n ∧ i = .int .i64 ((2 * j : Nat) : Int) ∧ EvI w l j v wr) (fun _ i _ => n + 2 - (intOf i).toNat)
  case atStart => exact HS.out
  case round =>
    obtain ⟨j, hj, rfl, hE⟩ := hrel
    rename World => V
    clear HS
    have hhf : 2 * half n ≤ n + 1 ∧ n ≤ 2 * half n := by unfold half; omega
    by_cases hjn : 2 * j < n
    · obtain ⟨a, rfl, hc⟩ := HCE.out V (2 * j) hE.below hjn
      have hes := evs_succ l j
      have hel := evs_len l j
      obtain ⟨q, hq⟩ : ∃ q, q = 2 * j := ⟨_, rfl⟩
      rw [← hq] at hc hes hjn ⊢
      generalize l.getD q 0 = x at *
      have q0 : (0 : Int) ≤ (q : Int) := by omega
      have q1 : (q : Int) < (n : Int) := by omega
      have q2 : IntKind.i64.wrap ((q : Int) + 2) = (q : Int) + 2 := IntWalk.i64_in _ (by omega)
      have HX : Hid (∀ (W2 : World) (v2 : Value), (V.alloc (.cells #[.int .u8 (x : Int)] 5)).grownBy W2 u4.ownBlock → W2.ownsRow (w.heap.size + 1) 5 1 v2 (j + 1) ((evs l j).map byV ++ [.int .u8 (x : Int)]) →
          ∃ j' : Nat, j' ≤ half n ∧ (Value.int .i64 ((q : Int) + 2)) = .int .i64 ((2 * j' : Nat) : Int) ∧ EvI w l j' v2 W2) := by
        intro W2 v2 hg hr
        have hne : ∀ k, u4.ownBlock = some k → w.heap.size + 1 ≤ k := fun k e => (hE.row.lt k e).1
        have hVs := hE.below.size
        have hrlt := blk_lt hE.rb
        refine ⟨j + 1, by omega, by rw [hq]; push_cast; first | rfl | (congr 1; omega), ?_, ?_, ?_⟩
        · exact (hE.below.alloc hE.below.size _).grown hg (by rw [World.size_alloc]; omega) (fun k e => by have := hne k e; omega)
        · rw [hg.block _ (by rw [World.size_alloc]; omega) (fun e => by have := hne _ e.symm; omega), Below.heap_alloc _ _ _ hrlt]; exact hE.rb
        · rw [hes, List.length_append, hel, List.map_append]; exact hr
      have hjb : j ≤ 1000 := by omega
      have HV : Hid (V.ownsRow (w.heap.size + 1) 5 1 u4 j ((evs l j).map byV)) := by have := hE.row; rw [hel] at this; exact this
      have HSZ : Hid (w.heap.size + 1 ≤ V.heap.size) := by have := blk_lt hE.rb; show _ ≤ _; omega
      have HNe := Lib.hid (World.news_of_block (heap_alloc_new V (.cells #[.int .u8 (x : Int)] 5)))
      have HQN := Lib.hid hjn
      clear hE hes hel hj hjn hhf hq
      generalize (evs l j).map byV = es at *
      go_wp2_with (at_builtin; refine wpList_append_own _ rfl (.tmp 15) (.tmp 20) 34 rfl (w.heap.size + 1) 5 i0 (.int .u8 0) 1 1 Tryd.underlying34 hi hz0 hz1 hz2 rfl (by decide) u4 j _ rfl (HV.out.alloc _) ⟨V.heap.size, 0, none⟩ 1 1 [.int .u8 (x : Int)] rfl rfl HNe.out (by intro u hu; simp at hu; subst hu; rfl) (by unfold maxLen; omega) (by omega) (by rw [World.size_alloc]; have := HSZ.out; omega) ?_; intro v' W2 hown' hgrow _; have HZ := Lib.hid (HX.out W2 v' hgrow hown'); clear hown' hgrow)
      exact ⟨HZ.out, by simp [intOf]; have := HQN.out; omega⟩
    · obtain rfl : j = half n := by omega
      have hel := evs_len l (half n)
      obtain ⟨ad, c, rfl, hBe⟩ := row_at hE.row
      have hgl : (evs l (half n)).length ≤ 1000 := by rw [hel]; omega
      have GU := Lib.hid (guess_any c hBe (evs_lt HLT.out _) hgl)
      have hgs : Gu.guP (evs l (half n)) = gss l := by unfold gss; rw [HN.out]
      unfold GuessP at GU
      rw [hgs] at GU
      have hfits : Fits (gss l) := gu_fits (evs_lt HLT.out _)
      have d1 : decide (((2 * half n : Nat) : Int) < (n : Int)) = false := by simp; omega
      have d2 : decide (2 * half n < n) = false := by simp; omega
      have HE := Lib.hid hE
      have HFI := Lib.hid hfits
      generalize hqq : 2 * half n = qq at *
      generalize (evs l (half n)).length = el at *
      clear hE hBe hgl hgs hfits hel hj hjn hhf hqq
      go_wp2_with fail
      refine GU.out.mono ?_
      rintro e w1 ⟨A2, cap2, rfl, hC, hb1, hAb⟩
      have hrb1 : w1.heap[w.heap.size]? = some (.cells pktZ 28 (0, 0)) := (hb1.block _ (blk_lt HE.out.rb)).trans HE.out.rb
      have hbw1 : Below w.heap.size w w1 := HE.out.below.trans (hb1.mono HE.out.below.size)
      have HAB : Hid (∀ a, A2 = some a → w.heap.size + 1 ≤ a.block) := fun a ha => by have h1 := hAb a ha; have h2 := blk_lt HE.out.rb; omega
      clear hAb
      have HSOME : Hid (∀ p, readF l = some p → gss l = p ∧ okP p = true ∧ Wr.bytes p = l) := fun p h => by
        obtain ⟨h1, h2, _, h4⟩ := gss_some HLT.out h
        exact ⟨h1, h2, h4⟩
      have HFI2 := HFI.out
      generalize gss l = g at *
      obtain ⟨w2, hw2⟩ : ∃ w2, w1.alloc (.cells (pktC g A2 g.msg.claims.length cap2) 28) = w2 := ⟨_, rfl⟩
      have hb2 : Below w1.heap.size w1 w2 := by rw [← hw2]; exact (Below.refl _ w1).alloc (Nat.le_refl _) _
      have h6 : w2.heap[w1.heap.size]? = some (.cells (pktC g A2 g.msg.claims.length cap2) 28 (0, 0)) := by rw [← hw2]; exact World.alloc_heap_new w1 _
      have hr2 := (hb2.block _ (blk_lt hrb1)).trans hrb1
      have hbw2 : Below w.heap.size w w2 := hbw1.trans (hb2.mono hbw1.size)
      have hC2 := hC.below hb2
      have RBok := fun h => rbytes_ok (w := w2) g cap2 hC2 HFI2 h
      have RBno := fun h => rbytes_no (w := w2) g cap2 hC2 HFI2 h
      have HBL := Lib.hid (bytes_lt g)
      have HRB := Lib.hid (fun (h : okP g = true) => read_bytes h HFI2)
      have HC2 := Lib.hid hC2
      have HBW2 := Lib.hid hbw2
      have HH6 := Lib.hid h6
      have HR2 := Lib.hid hr2
      clear hC hb1 hrb1 hbw1 HFI2 hC2 hbw2 GU hr2 hb2
      have hOK := hOK
      have RB := Lib.hid (RBno hOK)
      have hnone : readF l = none := by
        cases hr : readF l with
        | none => rfl
        | some p => obtain ⟨h1, h2, _⟩ := HSOME.out p hr; rw [← h1] at h2; rw [h2] at hOK; cases hOK
      have HF := Lib.hid (HQ0.out hnone)
      clear RBok RBno hOK hnone HQ0 HQ1 HRB
      obtain ⟨m1, m2, m3, m4, m5, m6, ⟨k1, k2, k3, k4, k5, k6, k7, k8, cl⟩⟩ := g
      simp only at *
      obtain ⟨⟨c0, c1, c2, c3, c4, c5, c6, c7, c8, c9, c10, c11, c12, c13, c14⟩, _⟩ := pk_cells h6
      generalize cl.length = n2 at *
      clear h6
      go_wp2_with fail
      clear hw2
      refine RB.out.mono ?_
      rintro e w3 ⟨rfl, hb3⟩
      have rbx := (hb3.block _ (blk_lt HR2.out)).trans HR2.out
      have HB3 := Lib.hid hb3
      clear hb3 c0 c1 c2 c3 c4 c5 c6 c7 c8 c9 c10 c11 c12 c13 c14 RB
      have HB3 : Hid (Below w.heap.size w w3) := HBW2.out.trans (HB3.out.mono HBW2.out.size)
      obtain ⟨⟨rc0, rc1, rc2, rc3, rc4, rc5, rc6, rc7, rc8, rc9, rc10, rc11, rc12, rc13, rc14⟩, rf⟩ := pk_cells rbx
      have hpa := Lib.hid (pk_all rbx (.int .i64 0) (.int .i64 0) (.int .u32 0) (.int .u32 0) (.int .u32 0) (.int .u32 0) (.int .i64 0) (.int .i64 0) (.int .u32 0) (.int .u64 0) (.int .i64 0) (.int .i64 0) (.int .i64 0) (.int .i64 0) (.slice none 0 0))
      clear rbx
      go_wp2
      obtain ⟨WF, hWF⟩ : ∃ WF, (((((((((((((((w3.setCell ⟨w.heap.size, 0, none⟩ (.int .i64 0)).setCell ⟨w.heap.size, 1, none⟩ (.int .i64 0)).setCell ⟨w.heap.size, 2, none⟩ (.int .u32 0)).setCell ⟨w.heap.size, 3, none⟩ (.int .u32 0)).setCell ⟨w.heap.size, 4, none⟩ (.int .u32 0)).setCell ⟨w.heap.size, 5, none⟩ (.int .u32 0)).setCell ⟨w.heap.size, 6, none⟩ (.int .i64 0)).setCell ⟨w.heap.size, 7, none⟩ (.int .i64 0)).setCell ⟨w.heap.size, 8, none⟩ (.int .u32 0)).setCell ⟨w.heap.size, 9, none⟩ (.int .u64 0)).setCell ⟨w.heap.size, 10, none⟩ (.int .i64 0)).setCell ⟨w.heap.size, 11, none⟩ (.int .i64 0)).setCell ⟨w.heap.size, 12, none⟩ (.int .i64 0)).setCell ⟨w.heap.size, 13, none⟩ (.int .i64 0)).setCell ⟨w.heap.size, 14, none⟩ (.slice none 0 0)) = WF := ⟨_, rfl⟩
      have hpa2 := hpa.out
      rw [hWF] at hpa2 ⊢
      clear hWF hpa
      obtain ⟨bF, kF⟩ := hpa2
      obtain ⟨⟨s0, s1, s2, s3, s4, s5, s6, s7, s8, s9, s10, s11, s12, s13, s14⟩, _⟩ := pk_cells bF
      have HFF := Lib.hid ((fun WF (kF : Kept (fun k => k = w.heap.size) w3 WF) => HF.out WF (HB3.out.trans (kF.below (fun k h => by omega) HB3.out.size))) WF kF)
      refine bodyPost_ret (v := .tuple #[.agg #[.int .i64 0, .int .i64 0, .int .u32 0, .int .u32 0, .int .u32 0, .int .u32 0, .int .i64 0, .int .i64 0, .int .u32 0, .int .u64 0, .int .i64 0, .int .i64 0, .int .i64 0, .int .i64 0, .slice none 0 0], .int .i64 70]) (by simp only [results, Tryd.results13]; simp [go_sem, s0, s1, s2, s3, s4, s5, s6, s7, s8, s9, s10, s11, s12, s13, s14]) rfl HFF.out
end Go.Proofs.YtmfbokaaoffdnaaDoor
