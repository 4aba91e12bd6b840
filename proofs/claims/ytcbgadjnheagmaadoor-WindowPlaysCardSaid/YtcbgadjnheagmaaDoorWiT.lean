/-
  The document's window: what is told of the numbers beyond the last in order.
-/
import Derived.Test.YtcbgadjnheagmaaDoorWiS
namespace Go.Proofs.YtcbgadjnheagmaaDoor
set_option maxRecDepth 100000
set_option linter.unusedSimpArgs false
open Go Go.RowKit

namespace Wd
theorem foldl_max : ∀ (L : List Nat) (a : Nat), a ≤ L.foldl max a ∧ (∀ x ∈ L, x ≤ L.foldl max a) ∧ (L.foldl max a = a ∨ L.foldl max a ∈ L)
  | [], a => ⟨Nat.le_refl _, (fun x h => by cases h), .inl rfl⟩
  | y :: r, a => by
    obtain ⟨h1, h2, h3⟩ := foldl_max r (max a y)
    simp only [List.foldl_cons]
    refine ⟨by omega, fun x hx => ?_, ?_⟩
    · rcases List.mem_cons.1 hx with rfl | hx
      · omega
      · exact h2 x hx
    · rcases h3 with h3 | h3
      · rw [h3]
        rcases Nat.le_total a y with h4 | h4
        · right; rw [Nat.max_eq_right h4]; exact List.mem_cons_self
        · left; exact Nat.max_eq_left h4
      · right; exact List.mem_cons_of_mem _ h3
def mx (L : List Nat) (l : Nat) : Nat := L.foldl max l
theorem top_of {l e : Nat} {L : List Nat} (h : Rep l e L) : mx L l = l + top e := by
  unfold mx
  obtain ⟨h1, h2, h3⟩ := foldl_max L l
  generalize L.foldl max l = F at *
  have ha : F ≤ l + top e := by
    rcases h3 with h3 | h3
    · omega
    · rcases Nat.lt_or_ge l F with h4 | h4
      · have h5 := h.rep F
        rw [decide_eq_true h3, has_high h4] at h5
        rcases Nat.lt_or_ge (F - l - 1) (top e) with h6 | h6
        · omega
        · rcases Nat.lt_or_ge (F - l - 1) 64 with h7 | h7
          · rw [topp_none e.testBit 64 _ h6 h7] at h5; cases h5
          · rw [bit_hi h.ok.he h7] at h5; cases h5
      · omega
  have hb : l + top e ≤ F := by
    rcases Nat.eq_zero_or_pos (top e) with h4 | h4
    · omega
    · have h5 : e.testBit (top e - 1) = true := top_set _ _ h4
      have h6 : l + top e ∈ L := by
        have h7 := h.rep (l + top e)
        rw [has_high (by omega), show l + top e - l - 1 = top e - 1 by omega, h5] at h7
        exact of_decide_eq_true h7.symm
      exact h2 _ h6
  omega
def sel (l e : Nat) (met : Bool) (j : Nat) : List Nat := ((List.range j).filter (fun i => e.testBit i == met)).map (l + 1 + ·)
theorem sel_succ (l e : Nat) (met : Bool) (j : Nat) : sel l e met (j + 1) = if (e.testBit j == met) = true then sel l e met j ++ [l + 1 + j] else sel l e met j := by
  unfold sel
  rw [List.range_succ, List.filter_append]
  cases h : (e.testBit j == met) <;> simp [h]
theorem sel_len (l e : Nat) (met : Bool) (j : Nat) : (sel l e met j).length ≤ j := by
  unfold sel
  rw [List.length_map]
  refine Nat.le_trans (List.length_filter_le _ _) ?_
  simp
theorem sel_top (l e : Nat) (met : Bool) : sel l e met (top e) = if met then early l e else miss l e := by
  cases met
  · unfold sel miss
    rw [posM_top]
    simp
  · unfold sel early
    rw [posE_top]
    unfold pos
    simp
end Wd

/-- The list so far. -/
def SelI (w : World) (l e : Nat) (met : Bool) (j : Nat) (v : Value) (W : World) : Prop :=
  W.ownsRow w.heap.size 23 1 v (Wd.sel l e met j).length ((Wd.sel l e met j).map u32V) ∧ Below w.heap.size w W

set_option maxHeartbeats 2000000 in
theorem rbehind_any {w : World} {r base l e : Nat} {L : List Nat} (h : RefAt w r base L) (hR : Wd.Rep l e L) (hl : L.length ≤ 10000) (met : Bool) :
    Calls Tryd.prog 16 #[.pointer (some ⟨r, 0, none⟩), .bool met] w (RowP w (if met then Wd.early l e else Wd.miss l e)) := by
  obtain ⟨i0, hi, hz0, hz1, hz2⟩ := info_parts Tryd.infoU32
  obtain ⟨a, c, ⟨c0, c1, _⟩, _, _, hc⟩ := h.open_
  have HLA := Lib.hid (rlast_any h hR hl)
  have HH : Hid (∀ W j, Below w.heap.size w W → j < Wd.top e → Calls Tryd.prog 18 #[.pointer (some ⟨r, 0, none⟩), .int .u32 ((l : Int) + 1 + (j : Int))] W fun x w' => x = .returned (.bool (e.testBit j)) ∧ w' = W) := fun W j hb hj => by
    have := rhas_any (n := l + 1 + j) (h.kept (still_of hb) id (fun _ _ _ => id)) (by omega)
    rw [← hR.rep, Wd.has_high (by omega), show l + 1 + j - l - 1 = j by omega] at this
    rwa [show (((l + 1 + j : Nat)) : Int) = (l : Int) + 1 + (j : Int) by push_cast; rfl] at this
  have HTP : Hid (Wd.mx L l = l + Wd.top e) := (Wd.top_of hR)
  have HTB : Hid (Wd.top e ≤ 64 ∧ l + Wd.top e ≤ 4294967295 ∧ l ≤ 4294967295) := by
    refine ⟨Wd.top_le e, ?_, hR.ok.hl⟩
    rcases Nat.eq_zero_or_pos (Wd.top e) with h4 | h4
    · have := hR.ok.hl; omega
    · have := hR.ok.hb _ (Wd.top_set e.testBit 64 h4)
      unfold Wd.top at *
      omega
  have HFB : Hid (∀ j, j < L.length → Wd.mx (L.take (j + 1)) l = max (Wd.mx (L.take j) l) (L.getD j 0)) := fun j hj => by unfold Wd.mx; rw [take_snoc_nat hj, List.foldl_append]; rfl
  have HFL : Hid (Wd.mx (L.take L.length) l = l + Wd.top e) := by rw [List.take_length]; exact (Wd.top_of hR)
  have HST := Lib.hid (Wd.sel_top l e met)
  generalize (if met then Wd.early l e else Wd.miss l e) = RR at *
  have HBW := Lib.hid (fun W (hb : Below w.heap.size w W) => (still_of hb).cell c1 id)
  obtain ⟨N, hN⟩ : ∃ N, N = L.length := ⟨_, rfl⟩
  rw [← hN] at hl c1 hc HFB HFL
  have HC := Lib.hid hc
  have HL := Lib.hid hl
  clear h hR hl hc hN HTP HBW
  go_enter Tryd.func16, Tryd.ntmps16
  go_wp2_with fail
  refine HLA.out.mono ?_
  rintro x w2 ⟨rfl, hw2⟩
  rw [hw2]
  clear hw2 w2 HLA
  go_wp2
  go_loopw [6, 7] (fun t i wr => ∃ j : Nat, j ≤ N ∧ t = .int .u32 ((Wd.mx (L.take j) l : Nat) : Int) ∧ i = .int .i64 (j : Int) ∧ w = wr) (fun _ i _ => N - (intOf i).toNat)
  case atStart => exact ⟨0, Nat.zero_le _, by simp [Wd.mx], rfl, rfl⟩
  case round =>
    obtain ⟨j, hj, rfl, rfl, rfl⟩ := hrel
    by_cases hjN : j < N
    · obtain ⟨g, rfl, cg⟩ := HC.out j hjN
      have hf := HFB.out j hjN
      have q0 : (0 : Int) ≤ (j : Int) := by omega
      have q1 : (j : Int) < (N : Int) := by omega
      have q2 : IntKind.i64.wrap ((j : Int) + 1) = (j : Int) + 1 := IntWalk.i64_in _ (by have := HL.out; omega)
      have d1 : decide ((j : Int) < (N : Int)) = true := by simpa using hjN
      have d2 : decide (j < N) = true := by simpa using hjN
      have HS : Hid (∀ y : Nat, y = Wd.mx (L.take (j + 1)) l → ∃ i : Nat, i ≤ N ∧ (Value.int .u32 (y : Int)) = .int .u32 ((Wd.mx (L.take i) l : Nat) : Int) ∧ (Value.int .i64 ((j : Int) + 1)) = .int .i64 (i : Int)) := fun y hy => ⟨j + 1, hjN, by rw [hy], by push_cast; rfl⟩
      rw [hf] at HS
      have HJ := Lib.hid hjN
      generalize Wd.mx (L.take j) l = T at *
      generalize L.getD j 0 = x at *
      clear hf hj hjN
      by_cases hx : T < x
      · have d3 : decide ((T : Int) < (x : Int)) = true := by simpa using hx
        have d4 : decide (T < x) = true := by simpa using hx
        have HS2 := Lib.hid (HS.out x (by omega))
        clear hx HS
        go_wp2
        obtain ⟨i', r1, r2, r3⟩ := HS2.out
        exact ⟨⟨i', r1, r2, r3, by trivial⟩, by simp [intOf]; have := HJ.out; omega⟩
      · have d3 : decide ((T : Int) < (x : Int)) = false := by simp; omega
        have d4 : decide (T < x) = false := by simp; omega
        have HS2 := Lib.hid (HS.out T (by omega))
        clear hx HS
        go_wp2
        obtain ⟨i', r1, r2, r3⟩ := HS2.out
        exact ⟨⟨i', r1, r2, r3, by trivial⟩, by simp [intOf]; have := HJ.out; omega⟩
    · obtain rfl : j = N := by omega
      have d1 : decide ((j : Int) < (j : Int)) = false := by simp
      rw [HFL.out]
      obtain ⟨t1, t2, t3⟩ := HTB.out
      have w2 : IntKind.u64.wrap (l : Int) = (l : Int) := by rw [IntKind.wrap_u64]; omega
      have w3 : IntKind.u64.wrap ((l : Int) + 1) = (l : Int) + 1 := by rw [IntKind.wrap_u64]; omega
      have w4 : IntKind.u64.wrap (((l + Wd.top e : Nat)) : Int) = ((l + Wd.top e : Nat) : Int) := by rw [IntKind.wrap_u64]; omega
      have HS : Hid (∃ k : Nat, k ≤ Wd.top e ∧ (Value.int .u64 ((l : Int) + 1)) = .int .u64 ((l : Int) + 1 + (k : Int)) ∧ SelI w l e met k (.slice none 0 0) w) := ⟨0, Nat.zero_le _, by simp, ⟨by simp [Wd.sel], .inl ⟨rfl, rfl⟩⟩, Below.refl _ _⟩
      clear hj hjN t1 t2 t3
      generalize hlt : l + Wd.top e = lt at *
      have HLT := Lib.hid hlt
      clear hlt
      go_wp2
      go_loopw [8, 9] (fun o n wr => ∃ k : Nat, k ≤ Wd.top e ∧ n = .int .u64 ((l : Int) + 1 + (k : Int)) ∧ SelI w l e met k o wr) (fun _ n _ => l + 1 + Wd.top e - (intOf n).toNat)
      case atStart => exact HS.out
      case round =>
        obtain ⟨k, hk, rfl, hS⟩ := hrel
        rename World => V
        have hlt := HLT.out
        have htb := HTB.out
        by_cases hkT : k < Wd.top e
        · have d2 : decide ((l : Int) + 1 + (k : Int) ≤ (lt : Int)) = true := by simp; omega
          have w5 : IntKind.u32.wrap ((l : Int) + 1 + (k : Int)) = (l : Int) + 1 + (k : Int) := u32_in (by omega) (by omega)
          have w6 : IntKind.u64.wrap ((l : Int) + 1 + (k : Int) + 1) = (l : Int) + 1 + (k : Int) + 1 := by rw [IntKind.wrap_u64]; omega
          have hH := HH.out V k hS.2 hkT
          have hss := Wd.sel_succ l e met k
          have hsl := Wd.sel_len l e met k
          have HS := Lib.hid hS
          have HK := Lib.hid hkT
          generalize e.testBit k = tb at *
          have HHk := Lib.hid hH
          clear hH hS hk hkT
          have eqv : (l : Int) + 1 + (k : Int) + 1 = (l : Int) + 1 + ((k + 1 : Nat) : Int) := by push_cast; omega
          go_wp2_with fail
          refine HHk.out.mono ?_
          rintro x w7 ⟨rfl, hw7⟩
          rw [hw7]
          clear hw7 w7 HHk
          cases hcmp : (tb == met)
          · rw [hcmp] at hss
            have HX : Hid (∃ i : Nat, i ≤ Wd.top e ∧ (Value.int .u64 ((l : Int) + 1 + (k : Int) + 1)) = .int .u64 ((l : Int) + 1 + (i : Int)) ∧ SelI w l e met i u8 V) := ⟨k + 1, HK.out, by rw [eqv], by unfold SelI; rw [hss]; exact HS.out⟩
            have HM : Hid (l + 1 + Wd.top e - ((l : Int) + 1 + (k : Int) + 1).toNat < l + 1 + Wd.top e - ((l : Int) + 1 + (k : Int)).toNat) := by have := HK.out; show _ < _; omega
            clear hss hsl eqv hlt htb HTB
            go_wp2
            exact ⟨HX.out, HM.out⟩
          · rw [hcmp, if_pos rfl] at hss
            have HN : Hid (∀ W2 v', (V.alloc (.cells #[.int .u32 ((l : Int) + 1 + (k : Int))] 23)).grownBy W2 u8.ownBlock → W2.ownsRow w.heap.size 23 1 v' ((Wd.sel l e met k).length + 1) ((Wd.sel l e met k).map u32V ++ [.int .u32 ((l : Int) + 1 + (k : Int))]) →
                ∃ i : Nat, i ≤ Wd.top e ∧ (Value.int .u64 ((l : Int) + 1 + (k : Int) + 1)) = .int .u64 ((l : Int) + 1 + (i : Int)) ∧ SelI w l e met i v' W2) := by
              intro W2 v' hg ho
              refine ⟨k + 1, HK.out, by rw [eqv], ?_⟩
              unfold SelI
              rw [hss, List.length_append, List.map_append]
              refine ⟨?_, ?_⟩
              · have : [l + 1 + k].map u32V = [.int .u32 ((l : Int) + 1 + (k : Int))] := by simp [u32V]
                rw [this]; exact ho
              · exact (HS.out.2.alloc HS.out.2.size _).grown hg (by rw [World.size_alloc]; have := HS.out.2.size; omega) (fun i hi => (HS.out.1.lt i hi).1)
            have HM : Hid (l + 1 + Wd.top e - ((l : Int) + 1 + (k : Int) + 1).toNat < l + 1 + Wd.top e - ((l : Int) + 1 + (k : Int)).toNat) := by have := HK.out; show _ < _; omega
            obtain ⟨M, hM⟩ : ∃ M, M = (Wd.sel l e met k).length := ⟨_, rfl⟩
            have hMb : M ≤ 64 := by have := HK.out; omega
            have HV : Hid (V.ownsRow w.heap.size 23 1 u8 M ((Wd.sel l e met k).map u32V)) := by show World.ownsRow _ _ _ _ _ _ _; rw [hM]; exact HS.out.1
            rw [← hM] at HN
            have HNe := Lib.hid (World.news_of_block (heap_alloc_new V (.cells #[.int .u32 ((l : Int) + 1 + (k : Int))] 23)))
            have HSZ := Lib.hid HS.out.2.size
            clear hss hsl eqv hlt htb HTB hM
            go_wp2_with (at_builtin; refine wpList_append_own _ rfl (.tmp 55) (.tmp 58) 22 rfl w.heap.size 23 i0 (.int .u32 0) 1 4 Tryd.underlying22 hi hz0 hz1 hz2 rfl (by decide) u8 M _ rfl (HV.out.alloc _) ⟨V.heap.size, 0, none⟩ 1 1 [.int .u32 ((l : Int) + 1 + (k : Int))] rfl rfl HNe.out (by intro u hu; simp at hu; subst hu; rfl) (by unfold maxLen; omega) (by omega) (by rw [World.size_alloc]; have := HSZ.out; omega) ?_; intro v' W2 hown' hgrow _; have HZ := Lib.hid (HN.out _ _ hgrow hown'); clear hown' hgrow)
            exact ⟨HZ.out, HM.out⟩
        · obtain rfl : k = Wd.top e := by omega
          have d2 : decide ((l : Int) + 1 + ((Wd.top e : Nat) : Int) ≤ (lt : Int)) = false := by simp; omega
          have HF : Hid (RowP w RR (.returned u8) V) := ⟨u8, rfl, by rw [← HST.out]; exact hS.1, hS.2⟩
          clear hS hk hkT hlt htb HTB
          go_wp2
          go_ret
          exact HF.out
end Go.Proofs.YtcbgadjnheagmaaDoor
