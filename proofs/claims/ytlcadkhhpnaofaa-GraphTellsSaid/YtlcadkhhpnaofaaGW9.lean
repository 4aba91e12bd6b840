/-
  finished: its visits.
-/
import Derived.Test.YtlcadkhhpnaofaaGW8
namespace Go.Proofs.Ytlcadkhhpnaofaa
set_option maxRecDepth 100000
open Go Go.RowKit Gq

/-- Between two visits: who is met (block B), who was told (the variable's block pn); all else of Wb is as it was. -/
def VisM (Wb : World) (B pn : Nat) (s : Mt × List Nat) (wr : World) : Prop :=
  Kept (fun k => k = B ∨ k = pn) Wb wr ∧ wr.heap[B]? = some (.cells (bs s.1) 4 (0, 0)) ∧ ∃ v, wr.heap[pn]? = some (.cells #[v] 34 (0, 0)) ∧ RowAt wr v s.2 ∧ ∀ k, v.ownBlock = some k → Wb.heap.size ≤ k

structure VisE (Wb : World) (R : Gr) (B b pm pg pv pn : Nat) : Prop where
  ok : Ok R
  c1 : Wb.cell? ⟨pm, 0, none⟩ = some (.slice (some ⟨B, 0, none⟩) R.length R.length)
  c2 : Wb.cell? ⟨pg, 0, none⟩ = some (.pointer (some ⟨b, 0, none⟩))
  c3 : Wb.cell? ⟨pv, 0, none⟩ = some (.func (.func 48) #[] #[.pointer (some ⟨pm, 0, none⟩), .pointer (some ⟨pg, 0, none⟩), .pointer (some ⟨pv, 0, none⟩), .pointer (some ⟨pn, 0, none⟩)])
  row : ∀ k, k < R.length → ∃ g cap P c, (b ≠ B ∧ b ≠ pn) ∧ (g ≠ B ∧ g ≠ pn) ∧ Wb.cell? ⟨b, 0, none⟩ = some (.slice (some ⟨g, 0, none⟩) R.length cap) ∧ Wb.cell? ⟨g, k, none⟩ = some (.slice P (row R k).length c) ∧
      ∀ i, i < (row R k).length → ∃ q, P = some ⟨q, 0, none⟩ ∧ (q ≠ B ∧ q ≠ pn) ∧ Wb.cell? ⟨q, i, none⟩ = some (.int .i64 (((row R k).getD i 0 : Nat) : Int))
  n1 : pm ≠ B ∧ pm ≠ pn
  n2 : pg ≠ B ∧ pg ≠ pn
  n3 : pv ≠ B ∧ pv ≠ pn
  bp : B ≠ pn
  lt : B < Wb.heap.size ∧ pn < Wb.heap.size

theorem VisM.up {Wb : World} {B pn : Nat} {s : Mt × List Nat} {wr : World} (h : VisM Wb B pn s wr) {p : Addr} {u : Value} (hp : p.block ≠ B ∧ p.block ≠ pn) (hc : Wb.cell? p = some u) : wr.cell? p = some u :=
  h.1.cell hc (fun e => e.elim hp.1 hp.2)
theorem VisM.mark {Wb : World} {B pn : Nat} {s : Mt × List Nat} {wr : World} (hbp : B ≠ pn) (hlt : B < Wb.heap.size) (h : VisM Wb B pn s wr) (i : Nat) : VisM Wb B pn (s.1.set i true, s.2) (wr.setCell ⟨B, i, none⟩ (.bool true)) := by
  obtain ⟨hk, hm, v, hv, hr, hg⟩ := h
  have hk2 : Kept (fun k => k = B) wr (wr.setCell ⟨B, i, none⟩ (.bool true)) := (Kept.refl (fun k => k = B) wr).setCell (p := ⟨B, i, none⟩) (.inl rfl) _
  refine ⟨hk.trans hk2 (fun _ _ h => .inl h), ?_, v, (hk2.block _ (blk_lt hv) (fun e => hbp e.symm)).trans hv, hr.kept hk2 (fun g h e => by have := hg g h; omega), hg⟩
  show _ = some (Obj.cells (bs (s.1.set i true)) _ _)
  rw [← bs_set]
  exact heap_setCell_same wr B i (bs s.1) 4 (.bool true) hm
/-- A node is told. -/
theorem VisM.tell {Wb : World} {B pn : Nat} {s : Mt × List Nat} {wr w2 : World} {v : Value} {g2 cap2 x : Nat} {o : Obj} (hbp : B ≠ pn) (hlt : B < Wb.heap.size ∧ pn < Wb.heap.size) (h : VisM Wb B pn s wr) (hv : wr.heap[pn]? = some (.cells #[v] 34 (0, 0)))
    (ho : w2.ownsRow 0 3 1 (.slice (some ⟨g2, 0, none⟩) (s.2.length + 1) cap2) (s.2.length + 1) (nis s.2 ++ [.int .i64 (x : Int)])) (hgr : (wr.alloc o).grownBy w2 v.ownBlock) (hat : v.ownBlock = some g2 ∨ g2 = wr.heap.size + 1) :
    w2.cell? ⟨pn, 0, none⟩ = some v ∧ w2.frozen? ⟨pn, 0, none⟩ = false ∧ VisM Wb B pn (s.1, s.2 ++ [x]) (w2.setCell ⟨pn, 0, none⟩ (.slice (some ⟨g2, 0, none⟩) (s.2.length + 1) cap2)) := by
  obtain ⟨hk, hm, v', hv', hr, hg⟩ := h
  have e : v' = v := by
    rw [hv] at hv'
    injection hv' with h1
    injection h1 with h1
    have := congrArg (fun a : Array Value => a[0]?) h1
    simpa using this.symm
  subst e
  have hs := hk.size
  have hk1 : Kept (fun k => v'.ownBlock = some k) wr w2 := ((Kept.refl _ wr).alloc o).trans ((Kept.refl (fun k => v'.ownBlock = some k) (wr.alloc o)).grown hgr (fun k h => .inl h)) (fun _ _ h => h)
  have hnp : ¬ v'.ownBlock = some pn := fun e => by have := hg pn e; omega
  have hnB : ¬ v'.ownBlock = some B := fun e => by have := hg B e; omega
  have hp2 : w2.heap[pn]? = some (.cells #[v'] 34 (0, 0)) := (hk1.block _ (blk_lt hv) hnp).trans hv
  have hg2 : Wb.heap.size ≤ g2 := by
    rcases hat with h1 | h1
    · exact hg _ h1
    · omega
  have hk2 : Kept (fun k => k = pn) w2 (w2.setCell ⟨pn, 0, none⟩ (.slice (some ⟨g2, 0, none⟩) (s.2.length + 1) cap2)) := (Kept.refl (fun k => k = pn) w2).setCell (p := ⟨pn, 0, none⟩) (.inl rfl) _
  refine ⟨by rw [blk_cell hp2]; rfl, blk_free hp2 0, (hk.trans hk1 (fun k hk' e => by have := hg k e; omega)).trans hk2 (fun _ _ h => .inr h), (hk2.block _ (Nat.lt_of_lt_of_le (blk_lt hm) hk1.size) hbp).trans ((hk1.block _ (blk_lt hm) hnB).trans hm), .slice (some ⟨g2, 0, none⟩) (s.2.length + 1) cap2, ?_, ?_, fun k hk' => ?_⟩
  · have := heap_setCell_same w2 pn 0 #[v'] 34 (.slice (some ⟨g2, 0, none⟩) (s.2.length + 1) cap2) hp2
    simpa using this
  · have : RowAt w2 (.slice (some ⟨g2, 0, none⟩) (s.2.length + 1) cap2) (s.2 ++ [x]) := by
      show World.ownsRow _ _ _ _ _ _ _
      rw [nis_append, List.length_append]
      exact ho
    exact this.kept hk2 (fun g h e => by
      have h : some g2 = some g := h
      have : g2 = g := by simpa using h
      omega)
  · have hk' : some g2 = some k := hk'
    have : g2 = k := by simpa using hk'
    omega

set_option maxHeartbeats 2000000 in
theorem visit_any {Wb : World} {R : Gr} {B b pm pg pv pn : Nat} (HE : Hid (VisE Wb R B b pm pg pv pn)) : ∀ (f v : Nat) (s : Mt × List Nat) (wr : World), cnt s.1 ≤ f → s.1.length = R.length → v < R.length → mtb s.1 v = false → s.2.length + cnt s.1 ≤ R.length → VisM Wb B pn s wr →
    Calls Try.prog 48 #[.int .i64 (v : Int), .pointer (some ⟨pm, 0, none⟩), .pointer (some ⟨pg, 0, none⟩), .pointer (some ⟨pv, 0, none⟩), .pointer (some ⟨pn, 0, none⟩)] wr fun e w' => e = .returned (.tuple #[]) ∧ VisM Wb B pn (visF R f v s) w'
  | 0, v, s, wr, hf, hs, hv, hu, _, _ => by
    have := cnt_set (show v < s.1.length by omega) hu
    omega
  | f + 1, v, s, wr, hf, hs, hv, hu, hb, hM => by
    have HI := Lib.hid (visit_any HE f)
    obtain ⟨i0, hi, hz0, hz1, hz2⟩ := info_parts Try.infoInt
    have hc := cnt_set (show v < s.1.length by omega) hu
    have hM1 := hM.mark HE.out.bp HE.out.lt.1 v
    have d1 := hM.up HE.out.n1 HE.out.c1
    have mB := blk_cell hM.2.1 v
    rw [bs_get (by omega)] at mB
    have fB := blk_free hM.2.1 v
    obtain ⟨g, gcap, P, rc, xb, xg, r1, r2, r3⟩ := HE.out.row v hv
    have HR3 := Lib.hid r3
    have e1 := hM1.up HE.out.n2 HE.out.c2
    have e2 := hM1.up xb r1
    have e3 := hM1.up xg r2
    have HM1 := Lib.hid hM1
    have hl0 : (s.1.set v true).length = R.length := by simpa using hs
    obtain ⟨s0, hs0⟩ : ∃ s0, s0 = (s.1.set v true, s.2) := ⟨_, rfl⟩
    rw [← hs0] at HM1
    have hcs : cnt s0.1 ≤ f ∧ s0.1.length = R.length ∧ s0.2.length + cnt s0.1 + 1 ≤ R.length := by
      rw [hs0]; exact ⟨by simp only; omega, hl0, by simp only; omega⟩
    have HCS := Lib.hid hcs
    have hvis : visF R (f + 1) v s = (((row R v).foldl (vis1 R f) s0).1, ((row R v).foldl (vis1 R f) s0).2 ++ [v]) := by rw [hs0]; rfl
    have HVIS := Lib.hid hvis
    have hrl : (row R v).length ≤ 1024 := by have := HE.out.ok.len v; have := HE.out.ok.size; omega
    have hn := HE.out.ok.size
    clear hM hM1 xb xg r1 r2 r3 hl0 hs0 hcs hvis hc hu hs hf hb
    obtain ⟨n, hnR⟩ : ∃ n, n = R.length := ⟨_, rfl⟩
    obtain ⟨rn, hrn⟩ : ∃ rn, rn = (row R v).length := ⟨_, rfl⟩
    rw [← hnR] at hv d1 e2 hn
    rw [← hrn] at e3 hrl
    have HN := Lib.hid hnR
    have HRN := Lib.hid hrn
    clear hnR hrn
    go_enter Try.func48, Try.ntmps48
    go_wp2
    clear d1 mB fB e1 e2 e3
    go_loopw [19] (fun u wi => ∃ i : Nat, i ≤ rn ∧ u = .int .i64 (i : Int) ∧ VisM Wb B pn (((row R v).take i).foldl (vis1 R f) s0) wi) (fun u _ => rn - (intOf u).toNat)
    case atStart => exact ⟨0, Nat.zero_le _, rfl, HM1.out⟩
    case round =>
      obtain ⟨i, hi', rfl, hM⟩ := hrel
      clear HM1
      have hvb := visB_list HE.out.ok f ((row R v).take i) s0 HCS.out.2.1 (fun x hx => HE.out.ok.node v x (List.mem_of_mem_take hx))
      have hsl : (((row R v).take i).foldl (vis1 R f) s0).1.length = R.length := by rw [hvb.1]; exact HCS.out.2.1
      by_cases hlt : i < rn
      · have hil : i < (row R v).length := by rw [← HRN.out]; exact hlt
        have hto : (row R v).getD i 0 < n := by
          rw [HN.out]
          apply HE.out.ok.node v
          simp [List.getD, hil]
        have hst : ((row R v).take (i + 1)).foldl (vis1 R f) s0 = vis1 R f (((row R v).take i).foldl (vis1 R f) s0) ((row R v).getD i 0) := by
          rw [take_snoc' hil, List.foldl_append]; rfl
        obtain ⟨q, rfl, xq, r3⟩ := HR3.out i (by rw [← HRN.out]; exact hlt)
        have f1 := hM.up xq r3
        have d1 := hM.up HE.out.n1 HE.out.c1
        rw [← HN.out] at d1
        have mB := blk_cell hM.2.1 ((row R v).getD i 0)
        rw [bs_get (by rw [hsl, ← HN.out]; exact hto)] at mB
        have d3 := hM.up HE.out.n3 HE.out.c3
        have HST := Lib.hid hst
        have HM := Lib.hid hM
        have HVB := Lib.hid hvb
        have HSL := Lib.hid hsl
        clear hst hM hvb hsl xq r3
        generalize ((row R v).take i).foldl (vis1 R f) s0 = si at *
        generalize (row R v).getD i 0 = to at *
        cases hmt : mtb si.1 to with
        | true =>
          rw [hmt] at mB
          have HQ : Hid (VisM Wb B pn (((row R v).take (i + 1)).foldl (vis1 R f) s0) wr) := by
            show VisM _ _ _ _ _
            rw [HST.out]
            unfold vis1
            rw [if_pos hmt]
            exact HM.out
          clear hmt HM
          go_wp2
          go_roundw
          case rel => exact ⟨i + 1, by omega, by go_num, HQ.out⟩
          case measure => simp [intOf]; omega
        | false =>
          rw [hmt] at mB
          have HC := Lib.hid (HI.out to si wr (by have := HVB.out.2.1; have := HCS.out.1; omega) HSL.out (by rw [← HN.out]; exact hto) hmt (by have := HVB.out.2.2; have := HCS.out.2.2; omega) HM.out)
          have e : visF R f to si = ((row R v).take (i + 1)).foldl (vis1 R f) s0 := by
            rw [HST.out]
            unfold vis1
            rw [if_neg (by simp [hmt])]
          rw [e] at HC
          clear hmt HM e
          go_wp2_with fail
          refine HC.out.mono ?_
          rintro e w' ⟨rfl, hq⟩
          have HQ := Lib.hid hq
          clear hq
          go_wp2
          go_roundw
          case rel => exact ⟨i + 1, by omega, by go_num, HQ.out⟩
          case measure => simp [intOf]; omega
      · have hfull : ((row R v).take i).foldl (vis1 R f) s0 = (row R v).foldl (vis1 R f) s0 := by rw [List.take_of_length_le (by rw [← HRN.out]; omega)]
        rw [hfull] at hM hvb
        have HV := HVIS.out
        generalize (row R v).foldl (vis1 R f) s0 = se at *
        obtain ⟨u, hu, hur, hug⟩ := hM.2.2
        have c4 : wr.cell? ⟨pn, 0, none⟩ = some u := by rw [blk_cell hu]; rfl
        have HM := Lib.hid hM
        have HU := Lib.hid hu
        have hlen : se.2.length ≤ 1024 := by have := hvb.2.2; have := HCS.out.2.2; have := HE.out.ok.size; omega
        have HO : Hid (World.ownsRow wr 0 3 1 u se.2.length (nis se.2)) := hur
        have HQ : Hid (∀ g2 cap2 w2 o, w2.ownsRow 0 3 1 (.slice (some ⟨g2, 0, none⟩) (se.2.length + 1) cap2) (se.2.length + 1) (nis se.2 ++ [.int .i64 (v : Int)]) → (wr.alloc o).grownBy w2 u.ownBlock → (u.ownBlock = some g2 ∨ g2 = wr.heap.size + 1) →
            w2.cell? ⟨pn, 0, none⟩ = some u ∧ w2.frozen? ⟨pn, 0, none⟩ = false ∧ VisM Wb B pn (visF R (f + 1) v s) (w2.setCell ⟨pn, 0, none⟩ (.slice (some ⟨g2, 0, none⟩) (se.2.length + 1) cap2))) := by
          intro g2 cap2 w2 o h1 h2 h3
          rw [HV]
          exact HM.out.tell HE.out.bp HE.out.lt HU.out h1 h2 h3
        have hnew := World.news_of_block (heap_alloc_new wr (.cells #[.int .i64 (v : Int)] 3))
        have HNEW : Hid (∀ j x, [Value.int .i64 (v : Int)][j]? = some x → (wr.alloc (.cells #[.int .i64 (v : Int)] 3)).cell? ((⟨wr.heap.size, 0, none⟩ : Addr).add j) = some x) := by
          show ∀ j x, _
          simpa using hnew
        clear hM hu hur hug HM hvb HV hfull hnew
        obtain ⟨r, hr⟩ : ∃ r, r = se.2.length := ⟨_, rfl⟩
        rw [← hr] at hlen HO HQ
        clear hr
        generalize nis se.2 = xs at *
        go_wp2_with (at_builtin; refine wpList_append_lies _ rfl (.tmp 32) (.tmp 34) 34 rfl 0 3 i0 (.int .i64 0) 1 8 Try.underlying34 hi hz0 hz1 hz2 rfl (by decide) u r xs rfl (HO.out.alloc _) ⟨wr.heap.size, 0, none⟩ 1 1 [.int .i64 (v : Int)] rfl rfl HNEW.out (by intro u hu; simp at hu; subst hu; rfl) (by decide) (by unfold maxLen; omega) (by omega) (Nat.zero_le _) (wr.heap.size + 1) (by simp) ?_; intro g2 cap2 w2 ho2 hg2 hat2 hlt3; obtain ⟨hq1, hq2, hq3⟩ := HQ.out _ _ _ _ ho2 hg2 hat2; have HQ3 := Lib.hid hq3; clear hq3 ho2 hg2 hat2 hlt3 HQ)
        go_end0
        exact ⟨rfl, HQ3.out⟩
end Go.Proofs.Ytlcadkhhpnaofaa
