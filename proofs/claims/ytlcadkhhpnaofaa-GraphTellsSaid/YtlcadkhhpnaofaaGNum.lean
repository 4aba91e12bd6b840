/-
  numbered: heads get numbers, by a map.
-/
import Derived.Test.YtlcadkhhpnaofaaGW11
import Derived.Maps.Views
import Derived.Maps.OwnOps
import Derived.Maps.OwnSet
namespace Go.Proofs.Ytlcadkhhpnaofaa
set_option maxRecDepth 100000
open Go Go.RowKit Gq
open Go.Maps (Keyed IsMap Tidy)

theorem nzero (w : World) : (zeroValue 3).run Try.prog w = .ok (.int .i64 0) w := by kernel_rfl
theorem nkeyed : Keyed Try.prog 3 := Maps.int_keyed Try.underlying3
theorem nwf {h : Nat} (hh : h ≤ 100000) : (Lit.int .i64 (h : Int)).wf = true := WalkArith.wf_i64 ⟨by omega, by omega⟩
theorem nkey {h : Nat} (hh : h ≤ 100000) : keyOf Try.prog 3 (.int .i64 (h : Int)) = some (.int .i64 (h : Int)) := Maps.keyOf_int_mk Try.underlying3 (nwf hh)

/-- The map of those seen, each with its number. -/
def NumM (w : World) (m : Nat) (seen : List Nat) : Prop :=
  ∃ D : DataW Unit, w.ownsMap Try.prog 3 (plainElem Try.prog 3) m seen.length D ∧ Maps.size D = seen.length ∧ ∀ h : Nat, Maps.has D (.int .i64 (h : Int)) = decide (h ∈ seen) ∧ (h ∈ seen → D.atKey (.int .i64 (h : Int)) (.lit (.int .i64 0)) = .lit (.int .i64 ((seen.idxOf h : Nat) : Int)))
theorem NumM.lt {w : World} {m : Nat} {seen : List Nat} (h : NumM w m seen) : m < w.heap.size := by
  obtain ⟨D, ho, _⟩ := h
  exact ho.lt
theorem NumM.kept {X : Nat → Prop} {w w' : World} {m : Nat} {seen : List Nat} (h : NumM w m seen) (hk : Kept X w w') (hm : ¬ X m) : NumM w' m seen := by
  have hlt := h.lt
  obtain ⟨D, ⟨es, clock, hb, F, hs, hD⟩, h1, h2⟩ := h
  exact ⟨D, ⟨es, clock, (hk.block m hlt hm).trans hb, F, hs, hD⟩, h1, h2⟩
theorem NumM.made (w : World) : NumM (w.alloc (.map #[] 0)) w.heap.size [] :=
  ⟨.map [], World.ownsMap_made w _ _ _, rfl, fun h => ⟨by simp [Maps.has], fun hm => by simp at hm⟩⟩
theorem NumM.put {w w' : World} {m h : Nat} {seen : List Nat} {D : DataW Unit} (ho : w.ownsMap Try.prog 3 (plainElem Try.prog 3) m seen.length D) (hs : Maps.size D = seen.length)
    (hh : ∀ h : Nat, Maps.has D (.int .i64 (h : Int)) = decide (h ∈ seen) ∧ (h ∈ seen → D.atKey (.int .i64 (h : Int)) (.lit (.int .i64 0)) = .lit (.int .i64 ((seen.idxOf h : Nat) : Int)))) (hn : h ∉ seen)
    (ho' : w'.ownsMap Try.prog 3 (plainElem Try.prog 3) m (seen.length + 1) (D.put (.int .i64 (h : Int)) (.lit (.int .i64 ((seen.length : Nat) : Int))))) : NumM w' m (seen ++ [h]) := by
  have ht : Tidy D := ho.tidy nkeyed
  have hkl : WideAt.IsKeyLit (.int .i64 (h : Int)) := trivial
  refine ⟨_, by simpa using ho', ?_, fun k => ?_⟩
  · rw [Maps.size_put ht, (hh h).1]
    simp [hn, hs]
  · by_cases e : k = h
    · subst e
      refine ⟨by rw [Maps.has_put_same ht.isMap hkl]; simp, fun _ => ?_⟩
      rw [Maps.atKey_put_same ht.isMap hkl]
      rw [List.idxOf_append, if_neg hn]
      simp
    · have hne : (Lit.int .i64 (k : Int)) ≠ (Lit.int .i64 (h : Int)) := by
        intro h2
        injection h2 with _ h2
        omega
      refine ⟨by rw [Maps.has_put_other hne, (hh k).1]; simp [e], fun hm => ?_⟩
      rw [Maps.atKey_put_other hne]
      have hk : k ∈ seen := by simpa [e] using hm
      rw [(hh k).2 hk, List.idxOf_append, if_pos hk]

theorem num_len (H : List Nat) : ((H.foldl num1 ([], [])).2).length = H.length ∧ (H.foldl num1 ([], [])).1.length ≤ H.length := by
  have : ∀ (H : List Nat) (s : List Nat × List Nat), (H.foldl num1 s).2.length = s.2.length + H.length ∧ (H.foldl num1 s).1.length ≤ s.1.length + H.length := by
    intro H
    induction H with
    | nil => intro s; simp
    | cons x H ih =>
      intro s
      rw [List.foldl_cons]
      have h1 := ih (num1 s x)
      have h2 : (num1 s x).2.length = s.2.length + 1 := by simp [num1]
      have h3 : (num1 s x).1.length ≤ s.1.length + 1 := by
        unfold num1
        simp only
        split <;> simp
      simp only [List.length_cons]
      omega
  have h := this H ([], [])
  simpa using h

def NumRel (w : World) (m : Nat) (s : List Nat × List Nat) (v : Value) (wr : World) : Prop :=
  NumM wr m s.1 ∧ RowAt wr v s.2 ∧ (∀ k, v.ownBlock = some k → m < k) ∧ Below w.heap.size w wr ∧ w.heap.size ≤ m

theorem NumRel.append {w w1 w2 : World} {m g2 cap2 x : Nat} {s : List Nat × List Nat} {seen : List Nat} {v : Value} {o : Obj} (hM : NumM w1 m seen) (hv : ∀ k, v.ownBlock = some k → m < k) (hb : Below w.heap.size w w1) (hm : w.heap.size ≤ m)
    (ho : w2.ownsRow 0 3 1 (.slice (some ⟨g2, 0, none⟩) (s.2.length + 1) cap2) (s.2.length + 1) (nis s.2 ++ [.int .i64 (x : Int)])) (hgr : (w1.alloc o).grownBy w2 v.ownBlock) (hat : v.ownBlock = some g2 ∨ g2 = w1.heap.size + 1) :
    NumRel w m (seen, s.2 ++ [x]) (.slice (some ⟨g2, 0, none⟩) (s.2.length + 1) cap2) w2 := by
  have hml := hM.lt
  have hk1 : Kept (fun k => v.ownBlock = some k) w1 w2 := ((Kept.refl _ w1).alloc o).trans ((Kept.refl (fun k => v.ownBlock = some k) (w1.alloc o)).grown hgr (fun k h => .inl h)) (fun _ _ h => h)
  refine ⟨hM.kept hk1 (fun e => by have := hv m e; omega), ?_, fun k hk => ?_, hb.trans (hk1.below (fun k hk => by have := hv k hk; omega) hb.size), hm⟩
  · show World.ownsRow _ _ _ _ _ _ _
    rw [nis_append, List.length_append]
    exact ho
  · have hk : some g2 = some k := hk
    obtain rfl : g2 = k := by simpa using hk
    rcases hat with h | h
    · exact hv _ h
    · omega

set_option maxHeartbeats 4000000 in
theorem numbered_any {w : World} {hv : Value} {H : List Nat} (h : IsL w hv (ints H)) (hl : H.length ≤ 1024) (hH : ∀ x ∈ H, x ≤ 1024) :
    Calls Try.prog 36 #[hv] w (NewR w (numF H)) := by
  obtain ⟨i0, hi, hz0, hz1, hz2⟩ := info_parts Try.infoInt
  obtain ⟨A, cap, rfl, _, hc⟩ := h
  have HC : Hid (∀ j, j < H.length → ∃ g, A = some ⟨g, 0, none⟩ ∧ ∀ wr, Below w.heap.size w wr → wr.cell? ⟨g, j, none⟩ = some (.int .i64 ((H.getD j 0 : Nat) : Int))) := by
    intro j hj
    obtain ⟨g, rfl, h1⟩ := hc j (by rw [ints_length]; exact hj)
    refine ⟨g, rfl, fun wr hb => ?_⟩
    rw [hb.cell (World.block_lt_of_cell? w _ h1), h1, ints_get]
  rw [ints_length]
  have HHt := Lib.hid hH
  have hmm := @run_makeMap Try.prog
  clear hc hH
  obtain ⟨L, hL⟩ : ∃ L, L = H.length := ⟨_, rfl⟩
  rw [← hL] at hl ⊢
  have HL := Lib.hid hL
  clear hL
  go_enter Try.func36, Try.ntmps36
  go_wp2
  clear hmm
  go_loopw [3, 12] (fun v u wr => ∃ k : Nat, k ≤ L ∧ u = .int .i64 (k : Int) ∧ NumRel w w.heap.size ((H.take k).foldl num1 ([], [])) v wr) (fun _ u _ => L - (intOf u).toNat)
  case atStart =>
    refine ⟨0, Nat.zero_le _, rfl, NumM.made w, RowAt.nil _, fun k hk => by simp [Value.ownBlock] at hk, (Below.refl _ w).alloc (Nat.le_refl _) _, Nat.le_refl _⟩
  case round =>
    obtain ⟨k, hk, rfl, hM, hr, hv, hb, hm⟩ := hrel
    have hnl := num_len (H.take k)
    by_cases hlt : k < L
    · have hkH : k < H.length := by rw [← HL.out]; exact hlt
      have hst : (H.take (k + 1)).foldl num1 ([], []) = num1 ((H.take k).foldl num1 ([], [])) (H.getD k 0) := by rw [take_snoc' hkH, List.foldl_append]; rfl
      obtain ⟨g, rfl, hcell⟩ := HC.out k hkH
      have f1 := hcell wr hb
      have hx : H.getD k 0 ≤ 1024 := HHt.out _ (by simp [List.getD, hkH])
      have HST := Lib.hid hst
      have hsl : ((H.take k).foldl num1 ([], [])).2.length ≤ 1024 := by rw [hnl.1, List.length_take]; omega
      have hsl2 : ((H.take k).foldl num1 ([], [])).1.length ≤ 1024 := Nat.le_trans hnl.2 (by rw [List.length_take]; omega)
      clear hst hcell hnl
      generalize (H.take k).foldl num1 ([], []) = s at *
      generalize H.getD k 0 = x at *
      obtain ⟨D, ho, hs, hh⟩ := hM
      have hkey := nkey (h := x) (by omega)
      have HO : Hid (World.ownsRow wr 0 3 1 u3 s.2.length (nis s.2)) := hr
      by_cases hin : x ∈ s.1
      · have hhas : Maps.has D (.int .i64 (x : Int)) = true := by rw [(hh x).1]; simp [hin]
        have HAT : Hid (∀ c : Int, D.atKey (.int .i64 (x : Int)) (.lit (.int .i64 0)) = .lit (.int .i64 c) → c = ((s.1.idxOf x : Nat) : Int)) := by
          intro c hc
          rw [(hh x).2 hin] at hc
          injection hc with hc
          injection hc with _ hc
          exact hc.symm
        have hidx : s.1.idxOf x ≤ 1024 := by have := List.idxOf_lt_length_of_mem hin; omega
        have hnum : num1 s x = (s.1, s.2 ++ [s.1.idxOf x]) := by unfold num1; simp [hin]
        have HQ : Hid (∀ g2 cap2 w2 o, w2.ownsRow 0 3 1 (.slice (some ⟨g2, 0, none⟩) (s.2.length + 1) cap2) (s.2.length + 1) (nis s.2 ++ [.int .i64 ((s.1.idxOf x : Nat) : Int)]) → (wr.alloc o).grownBy w2 u3.ownBlock → (u3.ownBlock = some g2 ∨ g2 = wr.heap.size + 1) →
            NumRel w w.heap.size ((H.take (k + 1)).foldl num1 ([], [])) (.slice (some ⟨g2, 0, none⟩) (s.2.length + 1) cap2) w2) := by
          intro g2 cap2 w2 o h1 h2 h3
          rw [HST.out, hnum]
          exact NumRel.append (s := s) ⟨D, ho, hs, hh⟩ hv hb hm h1 h2 h3
        have hnew := World.news_of_block (heap_alloc_new wr (.cells #[.int .i64 ((s.1.idxOf x : Nat) : Int)] 3))
        have HNEW : Hid (∀ j y, [Value.int .i64 ((s.1.idxOf x : Nat) : Int)][j]? = some y → (wr.alloc (.cells #[.int .i64 ((s.1.idxOf x : Nat) : Int)] 3)).cell? ((⟨wr.heap.size, 0, none⟩ : Addr).add j) = some y) := by
          show ∀ j y, _
          simpa using hnew
        have HOW := Lib.hid ho
        clear hnew hnum hin hh hs ho hr hv hb hm
        generalize s.1.idxOf x = ix at *
        generalize hrl : s.2.length = r at *
        clear hrl
        generalize nis s.2 = xs at *
        have HH1 := Lib.hid hhas
        clear hhas
        go_wp2_with (first | (at_lookup; refine wpList_lookup_own_ok_int _ rfl _ _ 73 rfl 3 3 .i64 nkeyed Try.underlying73 Try.underlying3 (nzero _) w.heap.size s.1.length D rfl HOW.out _ _ rfl hkey ?_; intro c hat hwc; rw [HH1.out]; clear hat hwc) | (at_lookup; refine wpList_lookup_own_int _ rfl _ _ 73 rfl 3 3 .i64 nkeyed Try.underlying73 Try.underlying3 (nzero _) w.heap.size s.1.length D rfl HOW.out _ _ rfl hkey ?_; intro c hat hwc; obtain rfl := HAT.out c hat; clear hat hwc) | (at_builtin; refine wpList_append_lies _ rfl (.tmp 28) (.tmp 32) 34 rfl 0 3 i0 (.int .i64 0) 1 8 Try.underlying34 hi hz0 hz1 hz2 rfl (by decide) u3 r xs rfl (HO.out.alloc _) ⟨wr.heap.size, 0, none⟩ 1 1 [.int .i64 (ix : Int)] rfl rfl HNEW.out (by intro u hu; simp at hu; subst hu; rfl) (by decide) (by unfold maxLen; omega) (by omega) (Nat.zero_le _) (wr.heap.size + 1) (by simp) ?_; intro g2 cap2 w2 ho2 hg2 hat2 hlt3; have HQ3 := Lib.hid (HQ.out _ _ _ _ ho2 hg2 hat2); clear ho2 hg2 hat2 hlt3 HQ))
        go_roundw
        case rel => exact ⟨k + 1, by omega, by go_num, HQ3.out⟩
        case measure => simp [intOf]; omega
      · have hhas : Maps.has D (.int .i64 (x : Int)) = false := by rw [(hh x).1]; simp [hin]
        have hnum : num1 s x = (s.1 ++ [x], s.2 ++ [s.1.length]) := by
          unfold num1
          rw [if_neg hin, List.idxOf_append, if_neg hin]
          simp
        have hml := ho.lt
        have HP : Hid (∀ w1, w1.ownsMap Try.prog 3 (plainElem Try.prog 3) w.heap.size (s.1.length + 1) (D.put (.int .i64 (x : Int)) (.lit (.int .i64 ((s.1.length : Nat) : Int)))) → wr.grownBy w1 (some w.heap.size) →
            ∃ D2 : DataW Unit, w1.ownsMap Try.prog 3 (plainElem Try.prog 3) w.heap.size (s.1.length + 1) D2 ∧ (∀ c : Int, D2.atKey (.int .i64 (x : Int)) (.lit (.int .i64 0)) = .lit (.int .i64 c) → c = ((s.1.length : Nat) : Int)) ∧ w1.ownsRow 0 3 1 u3 s.2.length (nis s.2) ∧
              ∀ g2 cap2 w2 o, w2.ownsRow 0 3 1 (.slice (some ⟨g2, 0, none⟩) (s.2.length + 1) cap2) (s.2.length + 1) (nis s.2 ++ [.int .i64 ((s.1.length : Nat) : Int)]) → (w1.alloc o).grownBy w2 u3.ownBlock → (u3.ownBlock = some g2 ∨ g2 = w1.heap.size + 1) →
              NumRel w w.heap.size ((H.take (k + 1)).foldl num1 ([], [])) (.slice (some ⟨g2, 0, none⟩) (s.2.length + 1) cap2) w2) := by
          intro w1 ho1 hg1
          have hM := NumM.put ho hs hh hin ho1
          have hM' := hM
          obtain ⟨D2, ho2, hs2, hh2⟩ := hM
          have hk1 : Kept (fun k => some w.heap.size = some k) wr w1 := (Kept.refl _ wr).grown hg1 (fun k h => .inl h)
          have hr1 : RowAt w1 u3 s.2 := hr.kept hk1 (fun g hg e => by have := hv g hg; have : w.heap.size = g := by simpa using e
                                                                      omega)
          refine ⟨D2, by simpa using ho2, fun c hc => ?_, hr1, fun g2 cap2 w2 o h1 h2 h3 => ?_⟩
          · rw [(hh2 x).2 (by simp), List.idxOf_append, if_neg hin] at hc
            injection hc with hc
            injection hc with _ hc
            simpa using hc.symm
          · rw [HST.out, hnum]
            exact NumRel.append (s := s) hM' hv (hb.trans (hk1.below (fun k hk => by have : w.heap.size = k := by simpa using hk
                                                                                     omega) hb.size)) hm h1 h2 h3
        have HOW := Lib.hid ho
        have HSZ := Lib.hid hs
        have HH1 := Lib.hid hhas
        clear hhas hnum hin hh hs ho hr hv hb hm HO hml
        generalize hse : s.1.length = se at *
        clear hse
        generalize hrl : s.2.length = r at *
        clear hrl
        generalize nis s.2 = xs at *
        go_wp2_with (first | (at_lookup; refine wpList_lookup_own_ok_int _ rfl _ _ 73 rfl 3 3 .i64 nkeyed Try.underlying73 Try.underlying3 (nzero _) w.heap.size se D rfl HOW.out _ _ rfl hkey ?_; intro c hat hwc; rw [HH1.out]; clear hat hwc) | (at_len; refine wpList_len_own _ rfl _ 73 rfl 3 3 Try.underlying73 _ w.heap.size se D rfl HOW.out ?_; rw [HSZ.out]) | (at_mapUpdate; refine wpList_mapUpdate_own _ rfl _ _ _ 73 rfl 3 3 nkeyed Try.underlying73 _ w.heap.size se D rfl HOW.out (by unfold maxLen; omega) _ _ _ rfl rfl hkey _ [] (plainElem_int Try.underlying3 (nwf (by omega))) ?_; intro w1 ho1 hg1; obtain ⟨D2, hd1, hd2, hd3, hd4⟩ := HP.out w1 ho1 hg1; have HD1 := Lib.hid hd1; have HD2 := Lib.hid hd2; have HD3 := Lib.hid hd3; have HD4 := Lib.hid hd4; clear ho1 hg1 hd1 hd2 hd3 hd4) | (at_lookup; refine wpList_lookup_own_int _ rfl _ _ 73 rfl 3 3 .i64 nkeyed Try.underlying73 Try.underlying3 (nzero _) w.heap.size (se + 1) D2 rfl HD1.out _ _ rfl hkey ?_; intro c hat hwc; obtain rfl := HD2.out c hat; clear hat hwc) | (at_builtin; refine wpList_append_lies _ rfl (.tmp 28) (.tmp 32) 34 rfl 0 3 i0 (.int .i64 0) 1 8 Try.underlying34 hi hz0 hz1 hz2 rfl (by decide) u3 r xs rfl (HD3.out.alloc _) ⟨w1.heap.size, 0, none⟩ 1 1 [.int .i64 (se : Int)] rfl rfl (by have := World.news_of_block (heap_alloc_new w1 (.cells #[.int .i64 (se : Int)] 3)); simpa using this) (by intro u hu; simp at hu; subst hu; rfl) (by decide) (by unfold maxLen; omega) (by omega) (Nat.zero_le _) (w1.heap.size + 1) (by simp) ?_; intro g2 cap2 w2 ho2 hg2 hat2 hlt3; have HQ3 := Lib.hid (HD4.out _ _ _ _ ho2 hg2 hat2); clear ho2 hg2 hat2 hlt3))
        go_roundw
        case rel => exact ⟨k + 1, by omega, by go_num, HQ3.out⟩
        case measure => simp [intOf]; omega
    · obtain rfl : k = L := by omega
      have HQ : Hid (NewR w (numF H) (.returned u3) wr) := by
        refine ⟨u3, rfl, ?_, fun i hi => by have := hv i hi; omega, hb⟩
        have e : H.take k = H := List.take_of_length_le (by rw [← HL.out]; exact Nat.le_refl _)
        rw [e] at hr
        exact hr
      clear hM hr hv hb hm hnl
      go_wp2
      go_ret
      exact HQ.out
end Go.Proofs.Ytlcadkhhpnaofaa
