/- Joined texts: Rs3, Rs4. -/
import Derived.Test.YtkedjnhidfnlkaaDoorRs2
import Derived.Test.YtkedjnhidfnlkaaDoorQArg

/-
  The walk of the law RouteRest: there is a route.
-/
namespace Go.Proofs.YtkedjnhidfnlkaaDoor
set_option maxRecDepth 100000
set_option linter.unusedSimpArgs false
open Go Go.RowKit Rq

/-- The banned cells, and those of the others that are too far. -/
def farL (C N fr n : Nat) (ban more : List Int) (j : Nat) : List Int := ban ++ (more.take j).filter (fun x => decide ((n : Int) ≤ farZ C N (fr : Int) x))
def FarR (w8 : World) (L : List Int) (v : Value) (wr : World) : Prop := wr.ownsRow w8.heap.size 3 1 v L.length (L.map intW) ∧ Below w8.heap.size w8 wr
theorem FarR.ints {w8 wr : World} {L : List Int} {v : Value} (h : FarR w8 L v wr) : ∃ A c, v = .slice A L.length c ∧ IntsAt wr A L := by
  obtain ⟨ho, hb⟩ := h
  rcases ho.2 with ⟨rfl, h0⟩ | ⟨g, cap, cur, rfl, h1, h2, h3, _⟩
  · exact ⟨none, 0, by rw [h0], fun j hj => by omega⟩
  · refine ⟨some ⟨g, 0, none⟩, cap, rfl, fun j hj => ⟨_, rfl, blk_lt h2, ?_⟩⟩
    have : Addr.add ⟨g, 0, none⟩ j = ⟨g, j, none⟩ := by simp [Addr.add]; omega
    rw [this, ho.cellAt j (by omega)]
    simp [intW, List.getD, hj]
theorem row_empty (w : World) (t : TypeId) (ht : t = 3) : (w.alloc (.cells #[] t)).ownsRow w.heap.size 3 1 (.slice (some ⟨w.heap.size, 0, none⟩) 0 0) 0 [] := by
  subst ht
  exact ⟨rfl, .inr ⟨w.heap.size, 0, #[], rfl, Nat.le_refl _, heap_alloc_new w _, Nat.le_refl _, by unfold maxLen; omega, rfl, rfl⟩⟩

set_option maxHeartbeats 8000000 in
theorem rr_some (s : ByteArray) (fr to_ D : Nat) (A B : Option Addr) (ban more : List Int) (cb ck : Nat) (w : World) (hw : Ways w) (hs : s.size ≤ 600) (hm : ban.length ≤ 100) (hk : more.length ≤ 100) (hB : IntsAt w B ban) (hA : IntsAt w A more) (hcb : B = none → ban = [] ∧ cb = 0) {R C : Nat} {ms : List UInt8} (hC : 1 ≤ C) (hG : Got s w R C ms) (hf : freeB ms (fr : Int) = true) (hf2 : freeB ms (to_ : Int) = true) (hfr : fr < ms.length) (ht : to_ < ms.length) (hD : dsZ R C ms ban fr to_ fr = some D) :
    Calls Tryd.prog 7 #[.string s, .int .i64 (fr : Int), .int .i64 (to_ : Int), .slice B ban.length cb, .slice A more.length ck] w fun e w' => e = .returned (.bool true) ∧ Below w.heap.size w w' := by
  have HA := Lib.hid (ralive_any w hw)
  obtain ⟨m, hmm⟩ : ∃ m, m = ban.length := ⟨_, rfl⟩
  obtain ⟨km, hkm⟩ : ∃ km, km = more.length := ⟨_, rfl⟩
  obtain ⟨N, hNN⟩ : ∃ N, N = ms.length := ⟨_, rfl⟩
  obtain ⟨n, hn⟩ : ∃ n, n = D + 1 := ⟨_, rfl⟩
  obtain ⟨P, hP⟩ : ∃ P, P = routeZ R C ms ban fr to_ D := ⟨_, rfl⟩
  obtain ⟨K, hK⟩ : ∃ K, K = looksN R C ms ban fr to_ := ⟨_, rfl⟩
  obtain ⟨F, hF⟩ : ∃ F, F = (frees ms).length := ⟨_, rfl⟩
  have hPl : P.length = n := by rw [hP, hn]; exact routeZ_len
  have hDN := dsZ_lt ht hD
  have hsm := hG.small
  have hbm : ban.length ≤ maxLen := by unfold maxLen; omega
  have HP := Lib.hid hG.parse
  have HC : Hid (∀ b g cap W, M1 w b g cap R C ms W → Calls Tryd.prog 28 #[.pointer (some ⟨b, 0, none⟩)] W fun e w' => e = .returned (.int .i64 (N : Int)) ∧ W = w') := fun b g cap W h => m1_cells h hNN.symm
  have HFi : Hid (∀ b g cap W, M1 w b g cap R C ms W → Calls Tryd.prog 14 #[.pointer (some ⟨b, 0, none⟩), .int .i64 (fr : Int), .int .i64 (to_ : Int), .slice B m cb, .int .i64 (N : Int)] W fun e w' => ∃ g' c, e = .returned (.tuple #[.slice (some ⟨g', 0, none⟩) n c, .int .i64 0]) ∧ (M1 w b g cap R C ms w' ∧ LstN b w' (.slice (some ⟨g', 0, none⟩) n c) P ∧ n ≤ c ∧ W.grownBy w' (some b))) := fun b g cap W h => m1_findc h (h.ints hB) hmm.symm hbm (by rw [hP]; exact find_some_ hf hf2 hD (by omega)) hPl (by omega)
  have HFk : Hid (∀ i, 1 ≤ i → i < n → ∀ b g cap W, M1 w b g cap R C ms W → Calls Tryd.prog 14 #[.pointer (some ⟨b, 0, none⟩), .int .i64 ((P.getD i 0 : Nat) : Int), .int .i64 (to_ : Int), .slice B m cb, .int .i64 (N : Int)] W fun e w' => ∃ a c, e = .returned (.tuple #[.slice a (n - i) c, .int .i64 0]) ∧ (M1 w b g cap R C ms w' ∧ LstN b w' (.slice a (n - i) c) (P.drop i) ∧ W.grownBy w' (some b))) := fun i h1 h2 b g cap W h => by
    rw [hP]
    exact m1_find h (h.ints hB) hmm.symm hbm (rest_eq hC hG.hN ht hf2 hD h1 (by omega) (by omega)) (by rw [List.length_drop, routeZ_len, hn])
  have HLk : Hid (∀ b g cap W, M1 w b g cap R C ms W → Calls Tryd.prog 17 #[.pointer (some ⟨b, 0, none⟩), .int .i64 (fr : Int), .int .i64 (to_ : Int), .slice B m cb] W fun e w' => e = .returned (.tuple #[.int .i64 (K : Int), .int .i64 0]) ∧ (M1 w b g cap R C ms w' ∧ W.grownBy w' (some b))) := fun b g cap W h => m1_looks h (h.ints hB) hmm.symm hbm (by unfold looksZ; rw [hf, hf2, hK]; rfl)
  have HKn : Hid (∀ b g cap W, M1 w b g cap R C ms W → n ≤ K) := fun b g cap W h => by rw [hn, hK]; exact looks_ge h.em ht hfr hD
  have hKF : K ≤ F := by rw [hK, hF]; exact looks_free hC hG.hN ht hf2
  have HFa : Hid (∀ x b g cap W, M1 w b g cap R C ms W → Calls Tryd.prog 31 #[.pointer (some ⟨b, 0, none⟩), .int .i64 (fr : Int), .int .i64 x] W fun e w' => e = .returned (.int .i64 (farZ C ms.length (fr : Int) x)) ∧ ∃ q, w' = W.drewN q) := fun x b g cap W h => far_any (fr : Int) x h.em hG.pos
  have HFf : Hid (∀ b g cap W A' c' L, L = farL C ms.length fr n ban more km → M1 w b g cap R C ms W → IntsAt W A' L → Calls Tryd.prog 14 #[.pointer (some ⟨b, 0, none⟩), .int .i64 (fr : Int), .int .i64 (to_ : Int), .slice A' L.length c', .int .i64 (N : Int)] W fun e w' => ∃ a c, e = .returned (.tuple #[.slice a n c, .int .i64 0]) ∧ (M1 w b g cap R C ms w' ∧ LstN b w' (.slice a n c) P ∧ W.grownBy w' (some b))) := fun b g cap W A' c' L hL h hi => by
    have hl : L.length ≤ maxLen := by
      rw [hL]
      unfold farL maxLen
      have := List.length_filter_le (fun x => decide ((n : Int) ≤ farZ C ms.length (fr : Int) x)) (more.take km)
      rw [List.length_append]
      rw [List.length_take] at this
      omega
    refine m1_find h hi rfl hl ?_ hPl
    rw [hL, hP]
    unfold farL
    refine far_eq h.em ht hfr hf hf2 hD (fun x hx => ?_) (by omega)
    have := (List.mem_filter.1 hx).2
    rw [decide_eq_true_eq, hn] at this
    exact this
  have HAl : Hid (∀ b g cap W, M1 w b g cap R C ms W → Calls Tryd.prog 32 #[.pointer (some ⟨b, 0, none⟩)] W fun e w' => ∃ a c, e = .returned (.slice a F c) ∧ (M1 w b g cap R C ms w' ∧ Below W.heap.size W w')) := fun b g cap W h => by
    have hlen := h.em.len
    refine (all_any b g cap ms W (by omega) h.em.lt (World.block_lt_of_cell? W ⟨g, 0, none⟩ (h.em.mark 0 hG.pos)) h.em.c2 (fun j hj => h.em.mark j hj)).mono ?_
    rintro e w' ⟨a, c, rfl, _, hb⟩
    exact ⟨a, c, by rw [hF], h.below hb, hb⟩
  have HBB := Lib.hid hB
  have HAA := Lib.hid hA
  have HCB := Lib.hid hcb
  have HPl := Lib.hid hPl
  have HMl := Lib.hid hkm
  have HBl := Lib.hid hmm
  have n1 : 1 ≤ n := by omega
  have n2 : n ≤ 1024 := by omega
  have hF2 : F ≤ 1024 := by
    have := freeK_le ms ms.length
    have e : F = (freeK ms ms.length).length := hF
    omega
  obtain ⟨i0, hi0, hz0, hz1, hz2⟩ := info_parts Tryd.infoInt
  rw [← hmm] at hm ⊢
  rw [← hkm] at hk ⊢
  clear hw hB hA hcb hG hf hf2 hD hmm hkm hNN hP hPl hn hF hK hC hDN hsm
  go_enter Tryd.func7, Tryd.ntmps7
  go_wp2_with (first
    | (go_at_call 26; (with_reducible refine HA.out.mono ?_); rintro e w1 ⟨rfl, hb⟩)
    | (go_at_call 12; (with_reducible refine (HP.out w1 hb).mono ?_); rintro e w2 ⟨b, g, cap, rfl, hm2⟩; have H2 := Lib.hid hm2; clear hm2)
    | (go_at_call 28; (with_reducible refine (HC.out _ _ _ _ H2.out).mono ?_); rintro e w' ⟨rfl, rfl⟩)
    | (go_at_call 14; (with_reducible refine (HFi.out _ _ _ _ H2.out).mono ?_); rintro e w3 ⟨g3, c3, rfl, hm3⟩; have H3 := Lib.hid hm3; clear hm3))
  have HN3 : Hid (n ≤ c3) := H3.out.2.2.1
  have HS1 : Hid (∃ i : Nat, 1 ≤ i ∧ i ≤ n ∧ Value.int .i64 1 = .int .i64 (i : Int) ∧ M1 w b g cap R C ms w3 ∧ LstN b w3 (.slice (some ⟨g3, 0, none⟩) n c3) P) := ⟨1, Nat.le_refl _, n1, rfl, H3.out.1, H3.out.2.1⟩
  clear H2 H3
  go_loopw [18] (fun u wr => ∃ i : Nat, 1 ≤ i ∧ i ≤ n ∧ u = .int .i64 (i : Int) ∧ M1 w b g cap R C ms wr ∧ LstN b wr (.slice (some ⟨g3, 0, none⟩) n c3) P) (fun u _ => n - (intOf u).toNat)
  case atStart => exact HS1.out
  case round =>
    obtain ⟨i, hi1, hi2, rfl, hm4, hl4⟩ := hrel
    rename World => W
    have HM := Lib.hid hm4
    have HL := Lib.hid hl4
    clear hm4 hl4 HS1
    by_cases hlt : i < n
    · have hd : M1 w b g cap R C ms W.drew := HM.out.below ((Below.refl _ W).drew)
      have hdl : LstN b W.drew (.slice (some ⟨g3, 0, none⟩) n c3) P := HL.out.below ((Below.refl _ W).drew)
      have HMd := Lib.hid hd
      have HLd := Lib.hid hdl
      have fy := hdl.cells i (by rw [HPl.out]; exact hlt)
      have HFq := Lib.hid (HFk.out i hi1 hlt _ _ _ _ HMd.out)
      have HQl : Hid ((P.drop i).length = n - i ∧ ∀ j, j < (P.drop i).length → (P.drop i).getD j 0 = P.getD (i + j) 0) := ⟨by rw [List.length_drop, HPl.out], fun j hj => by simp [List.getD]⟩
      generalize P.getD i 0 = y at *
      have HYf := Lib.hid fy
      have HGb : Hid (g3 ≠ b) := (HL.out.intsc (by rw [HPl.out]; exact n1)).2
      have k0 : (0 : Int) ≤ (i : Int) := by omega
      have k1 : (i : Int) < (n : Int) := by omega
      clear hd hdl
      go_wp2_with fail
      go_region_held3 (fun W2 => W2.cell? ⟨g3, i, none⟩ = some (.int .i64 (y : Int))) (first | exact HYf.out | exact hf5) (first
        | (go_at_call 28; (with_reducible refine (HC.out _ _ _ _ HMd.out).mono ?_); rintro e w' ⟨rfl, rfl⟩)
        | (go_at_call 14; (with_reducible refine HFq.out.mono ?_); rintro e w5 ⟨a5, c5, rfl, hm5⟩; have H5 := Lib.hid hm5; have hf5 : w5.cell? ⟨g3, i, none⟩ = some (.int .i64 (y : Int)) := H5.out.2.2.cell HYf.out (fun e => HGb.out (by injection e)); clear hm5))
      have hci : ¬ c3 = i := by have := HN3.out; omega
      clear hf5 fy
      have HL5 := Lib.hid (HLd.out.grown H5.out.2.2)
      have HSm := Lib.hid (same_part (w := w5) (l := P.drop i) (a2 := ⟨g3, i, none⟩) (c2 := c3 - i) H5.out.2.1.lst (fun j hj => by
        have h1 := HQl.out
        rw [h1.2 j hj]
        have := HL5.out.cells (i + j) (by rw [HPl.out]; omega)
        rw [← this]
        congr 1
        simp [Addr.add]) (by have := HQl.out.1; omega) HQl.out.1)
      go_wp2_with (with_reducible refine HSm.out.mono ?_; rintro e w6 ⟨rfl, q6, rfl⟩)
      have HEnd : Hid (∃ i' : Nat, 1 ≤ i' ∧ i' ≤ n ∧ Value.int .i64 ((i : Int) + 1) = .int .i64 (i' : Int) ∧ M1 w b g cap R C ms (w5.drewN q6) ∧ LstN b (w5.drewN q6) (.slice (some ⟨g3, 0, none⟩) n c3) P) :=
        ⟨i + 1, by omega, by omega, by go_num, H5.out.1.below (bel_drewN (Below.refl _ _) q6), HL5.out.below (bel_drewN (Below.refl _ _) q6)⟩
      clear HSm HL5 H5 HLd HMd HL HM
      go_wp2
      go_roundw
      case rel => exact HEnd.out
      case measure => simp [intOf]; omega
    · obtain rfl : n = i := by omega
      go_wp2_with fail
      refine (HLk.out _ _ _ _ HM.out).mono ?_
      rintro e w8 ⟨rfl, hm8⟩
      have H8 := Lib.hid hm8
      have HL8 := Lib.hid (HL.out.grown hm8.2)
      clear hm8 HL HM HFk
      have hb8 : Below w8.heap.size w8 (w8.alloc (.cells #[] 3)) := (Below.refl _ _).alloc (Nat.le_refl _) _
      have HB8 := Lib.hid hb8
      have HSt : Hid (∀ v' w', w'.ownsRow w8.heap.size 3 1 v' m (ban.map intW) → Below w8.heap.size w8 w' → ∃ j : Nat, j ≤ km ∧ Value.int .i64 0 = .int .i64 (j : Int) ∧ FarR w8 (farL C ms.length fr n ban more j) v' w') := fun v' w' h1 h2 => by
        refine ⟨0, Nat.zero_le _, rfl, ?_, h2⟩
        have e : farL C ms.length fr n ban more 0 = ban := by simp [farL]
        rw [e, ← HBl.out]
        exact h1
      clear hb8
      cases B with
      | none =>
        obtain ⟨eb, ec⟩ := HCB.out rfl
        have em : m = 0 := by rw [HBl.out, eb]; rfl
        subst em ec
        have HS2 : Hid (∃ j : Nat, j ≤ km ∧ Value.int .i64 0 = .int .i64 (j : Int) ∧ FarR w8 (farL C ms.length fr n ban more j) (.slice (some ⟨w8.heap.size, 0, none⟩) 0 0) (w8.alloc (.cells #[] 3))) := HSt.out _ _ (by rw [eb]; exact row_empty w8 _ rfl) HB8.out
        clear eb HSt
        go_wp2_with (at_builtin; refine wpList_append_own_none rfl (.tmp 107) (.tmp 108) 22 rfl w8.heap.size 3 i0 1 Tryd.underlying22 hi0 (.slice (some ⟨w8.heap.size, 0, none⟩) 0 0) 0 [] rfl (row_empty w8 _ rfl) rfl ?_)
        go_loopw [23, 24] (fun v u wr => ∃ j : Nat, j ≤ km ∧ u = .int .i64 (j : Int) ∧ FarR w8 (farL C ms.length fr n ban more j) v wr) (fun _ u _ => km - (intOf u).toNat)
        case atStart => exact HS2.out
        case round =>
          obtain ⟨j, hj, rfl, hr⟩ := hrel
          rename World => V
          have HR := Lib.hid hr
          clear hr HS2
          have HMv := Lib.hid (H8.out.1.below HR.out.2)
          have HLv := Lib.hid (HL8.out.below HR.out.2)
          by_cases hjk : j < km
          · obtain ⟨a9, rfl, ha9, fx⟩ := (HAA.out.below HMv.out.bl (Nat.le_refl _)) j (by rw [← HMl.out]; exact hjk)
            have HTk : Hid (more.take (j + 1) = more.take j ++ [more.getD j 0]) := by
              have hkl : j < more.length := by rw [← HMl.out]; exact hjk
              show _ = _
              rw [List.take_succ_eq_append_getElem hkl]
              simp [List.getD, hkl]
            have HFx := Lib.hid (HFa.out (more.getD j 0) _ _ _ _ HMv.out)
            have HLen : Hid ((farL C ms.length fr n ban more j).length ≤ 200) := by
              show _ ≤ _
              unfold farL
              have h1 := List.length_filter_le (fun x => decide ((n : Int) ≤ farZ C ms.length (fr : Int) x)) (more.take j)
              rw [List.length_append]
              rw [List.length_take] at h1
              have := HBl.out
              omega
            have HNext : Hid (farL C ms.length fr n ban more (j + 1) = if (n : Int) ≤ farZ C ms.length (fr : Int) (more.getD j 0) then farL C ms.length fr n ban more j ++ [more.getD j 0] else farL C ms.length fr n ban more j) := by
              show _ = _
              unfold farL
              rw [HTk.out, List.filter_append]
              by_cases h1 : (n : Int) ≤ farZ C ms.length (fr : Int) (more.getD j 0)
              · rw [if_pos h1]
                have e1 := decide_eq_true h1
                simp only [List.filter_cons, e1, List.filter_nil, if_true, List.append_assoc]
              · rw [if_neg h1]
                have e1 := decide_eq_false h1
                simp only [List.filter_cons, e1, List.filter_nil, Bool.false_eq_true, if_false, List.append_nil]
            obtain ⟨x, hx⟩ : ∃ x, x = more.getD j 0 := ⟨_, rfl⟩
            rw [← hx] at fx HFx HNext
            obtain ⟨fv, hfv⟩ : ∃ fv, fv = farZ C ms.length (fr : Int) x := ⟨_, rfl⟩
            rw [← hfv] at HFx HNext
            obtain ⟨L, hL⟩ : ∃ L, L = farL C ms.length fr n ban more j := ⟨_, rfl⟩
            rw [← hL] at HR HNext HLen
            obtain ⟨ln, hln⟩ : ∃ ln, ln = L.length := ⟨_, rfl⟩
            obtain ⟨hro, hrb⟩ := HR.out
            rw [← hln] at hro HLen
            have HO := Lib.hid hro
            have HB := Lib.hid hrb
            have HLn := Lib.hid hln
            have j0 : (0 : Int) ≤ (j : Int) := by omega
            have j1 : (j : Int) < (km : Int) := by omega
            clear hx hfv hL hln hro hrb HR HTk
            by_cases hv : (n : Int) ≤ fv
            · have d1 : decide ((n : Int) ≤ fv) = true := decide_eq_true hv
              have HF : Hid (∀ v' w', w'.ownsRow w8.heap.size 3 1 v' (ln + 1) (L.map intW ++ [intW x]) → Below w8.heap.size w8 w' → ∃ j' : Nat, j' ≤ km ∧ Value.int .i64 ((j : Int) + 1) = .int .i64 (j' : Int) ∧ FarR w8 (farL C ms.length fr n ban more j') v' w') := fun v' w' h1 h2 => by
                refine ⟨j + 1, by omega, by go_num, ?_, h2⟩
                rw [HNext.out, if_pos hv]
                simp only [List.length_append, List.length_cons, List.length_nil, List.map_append, List.map_cons, List.map_nil]
                rw [← HLn.out]
                exact h1
              clear hv HNext
              go_wp2_with (first | (go_at_call 31; (with_reducible refine HFx.out.mono ?_); rintro e w9 ⟨rfl, hq9⟩; have HO9 : Hid (w9.ownsRow w8.heap.size 3 1 u23 ln (L.map intW)) := (by obtain ⟨q9, rfl⟩ := hq9; exact HO.out); have HB9 : Hid (Below w8.heap.size w8 w9) := (by obtain ⟨q9, rfl⟩ := hq9; exact bel_drewN HB.out q9); have fx9 : w9.cell? (a9.add j) = some (.int .i64 x) := (by obtain ⟨q9, rfl⟩ := hq9; exact fx); have HNe := Lib.hid (World.news_of_block (heap_alloc_new w9 (.cells #[.int .i64 x] 3))); have HS9 := HB9.out.size; have hln2 := HLen.out; clear hq9) | (at_builtin; refine wpList_append_lies _ rfl (.tmp 126) (.tmp 131) 22 rfl w8.heap.size 3 i0 (.int .i64 0) 1 8 Tryd.underlying22 hi0 hz0 hz1 hz2 rfl (by decide) u23 ln (L.map intW) rfl (HO9.out.alloc _) ⟨w9.heap.size, 0, none⟩ 1 1 [.int .i64 x] rfl rfl (by have := HNe.out; simpa using this) (by intro u hu; simp at hu; subst hu; rfl) (by decide) (by unfold maxLen; omega) (by omega) (by simp; omega) (w9.heap.size + 1) (by simp) ?_; intro g2 cap5 w10 ho5 hg5 hat5 hlt5; have HFin := Lib.hid (HF.out _ w10 ho5 ((HB9.out.alloc HS9 _).grown hg5 (by simp; omega) (fun k hk => (HO9.out.lt k hk).1))); clear ho5 hg5 hat5 hlt5))
              go_roundw
              case rel => exact HFin.out
              case measure => simp [intOf]; omega
            · have d1 : decide ((n : Int) ≤ fv) = false := decide_eq_false hv
              have HF : Hid (∀ q, ∃ j' : Nat, j' ≤ km ∧ Value.int .i64 ((j : Int) + 1) = .int .i64 (j' : Int) ∧ FarR w8 (farL C ms.length fr n ban more j') u23 (V.drewN q)) := fun q => by
                refine ⟨j + 1, by omega, by go_num, ?_, bel_drewN HB.out q⟩
                rw [HNext.out, if_neg hv, ← HLn.out]
                exact HO.out
              clear hv HNext
              go_wp2_with (go_at_call 31; (with_reducible refine HFx.out.mono ?_); rintro e w9 ⟨rfl, q9, rfl⟩; have HF9 := Lib.hid (HF.out q9))
              go_roundw
              case rel => exact HF9.out
              case measure => simp [intOf]; omega
          · obtain rfl : km = j := by omega
            obtain ⟨A9, c9, rfl, hi9⟩ := HR.out.ints
            have HFq := Lib.hid (HFf.out _ _ _ _ _ c9 _ rfl HMv.out hi9)
            have hkn := HKn.out _ _ _ _ HMv.out
            have d1 : decide ((n : Int) ≤ (K : Int)) = true := decide_eq_true (by omega)
            have d2 : decide ((K : Int) ≤ (F : Int)) = true := decide_eq_true (by omega)
            clear HR hi9
            generalize (farL C ms.length fr n ban more km).length = ll at *
            go_wp2_with (first
              | (go_at_call 28; (with_reducible refine (HC.out _ _ _ _ HMv.out).mono ?_); rintro e w' ⟨rfl, rfl⟩)
              | (go_at_call 14; (with_reducible refine HFq.out.mono ?_); rintro e w10 ⟨a10, c10, rfl, hm10⟩; have H10 := Lib.hid hm10; have HL10 := Lib.hid (HLv.out.grown hm10.2.2); clear hm10)
              | (go_at_call 32; (with_reducible refine (HAl.out _ _ _ _ H10.out.1).mono ?_); rintro e w11 ⟨a11, c11, rfl, hm11⟩; have H11 := Lib.hid hm11; have HL11 := Lib.hid (HL10.out.below hm11.2); have HR11 := Lib.hid (H10.out.2.1.below hm11.2).lst; have HSm := Lib.hid (same_part (w := w11) (l := P) (a2 := ⟨g3, 0, none⟩) (c2 := c3) HR11.out (fun jj hjj => by have h1 := HL11.out.cells jj hjj; rw [← h1]; congr 1; simp [Addr.add] <;> omega) (by have := HPl.out; omega) HPl.out); clear hm11)
              | (go_at_call 18; (with_reducible refine HSm.out.mono ?_); rintro e w12 ⟨rfl, q12, rfl⟩))
            go_ret
            exact ⟨rfl, bel_drewN H11.out.1.bl q12⟩
      | some ad =>
        have hnews : ∀ (jj : Nat) (u : Value), (ban.map intW)[jj]? = some u → (w8.alloc (.cells #[] 3)).cell? (ad.add jj) = some u := by
          intro jj u hu
          have hjj : jj < ban.length := by
            rcases Nat.lt_or_ge jj ban.length with h | h
            · exact h
            · rw [List.getElem?_eq_none (by simpa using h)] at hu; cases hu
          obtain ⟨a', e1, _, h2⟩ := ((H8.out.1.alloc (.cells #[] 3)).ints HBB.out) jj hjj
          cases e1
          rw [h2, ← hu]
          simp [intW, List.getD, hjj]
        have HNw := Lib.hid hnews
        have HBl2 : Hid ((ban.map intW).length = m * 1) := by show _ = _; rw [List.length_map, HBl.out]; omega
        clear hnews
        go_wp2_with (at_builtin; refine wpList_append_own _ rfl (.tmp 107) (.tmp 108) 22 rfl w8.heap.size 3 i0 (.int .i64 0) 1 8 Tryd.underlying22 hi0 hz0 hz1 hz2 rfl (by decide) (.slice (some ⟨w8.heap.size, 0, none⟩) 0 0) 0 [] rfl (row_empty w8 _ rfl) ad m cb (ban.map intW) rfl HBl2.out HNw.out (by intro u hu; obtain ⟨z, _, rfl⟩ := List.mem_map.1 hu; rfl) (by unfold maxLen; omega) (by omega) (by simp) ?_; intro v9 w9 ho9 hg9 _; have HS2 := Lib.hid (HSt.out v9 w9 (by simpa using ho9) ((HB8.out).grown hg9 (by simp) (fun k hk => by simp [Value.ownBlock] at hk; omega))); clear ho9 hg9)
        clear HSt
        go_loopw [23, 24] (fun v u wr => ∃ j : Nat, j ≤ km ∧ u = .int .i64 (j : Int) ∧ FarR w8 (farL C ms.length fr n ban more j) v wr) (fun _ u _ => km - (intOf u).toNat)
        case atStart => exact HS2.out
        case round =>
          obtain ⟨j, hj, rfl, hr⟩ := hrel
          rename World => V
          have HR := Lib.hid hr
          clear hr HS2
          have HMv := Lib.hid (H8.out.1.below HR.out.2)
          have HLv := Lib.hid (HL8.out.below HR.out.2)
          by_cases hjk : j < km
          · obtain ⟨a9, rfl, ha9, fx⟩ := (HAA.out.below HMv.out.bl (Nat.le_refl _)) j (by rw [← HMl.out]; exact hjk)
            have HTk : Hid (more.take (j + 1) = more.take j ++ [more.getD j 0]) := by
              have hkl : j < more.length := by rw [← HMl.out]; exact hjk
              show _ = _
              rw [List.take_succ_eq_append_getElem hkl]
              simp [List.getD, hkl]
            have HFx := Lib.hid (HFa.out (more.getD j 0) _ _ _ _ HMv.out)
            have HLen : Hid ((farL C ms.length fr n ban more j).length ≤ 200) := by
              show _ ≤ _
              unfold farL
              have h1 := List.length_filter_le (fun x => decide ((n : Int) ≤ farZ C ms.length (fr : Int) x)) (more.take j)
              rw [List.length_append]
              rw [List.length_take] at h1
              have := HBl.out
              omega
            have HNext : Hid (farL C ms.length fr n ban more (j + 1) = if (n : Int) ≤ farZ C ms.length (fr : Int) (more.getD j 0) then farL C ms.length fr n ban more j ++ [more.getD j 0] else farL C ms.length fr n ban more j) := by
              show _ = _
              unfold farL
              rw [HTk.out, List.filter_append]
              by_cases h1 : (n : Int) ≤ farZ C ms.length (fr : Int) (more.getD j 0)
              · rw [if_pos h1]
                have e1 := decide_eq_true h1
                simp only [List.filter_cons, e1, List.filter_nil, if_true, List.append_assoc]
              · rw [if_neg h1]
                have e1 := decide_eq_false h1
                simp only [List.filter_cons, e1, List.filter_nil, Bool.false_eq_true, if_false, List.append_nil]
            obtain ⟨x, hx⟩ : ∃ x, x = more.getD j 0 := ⟨_, rfl⟩
            rw [← hx] at fx HFx HNext
            obtain ⟨fv, hfv⟩ : ∃ fv, fv = farZ C ms.length (fr : Int) x := ⟨_, rfl⟩
            rw [← hfv] at HFx HNext
            obtain ⟨L, hL⟩ : ∃ L, L = farL C ms.length fr n ban more j := ⟨_, rfl⟩
            rw [← hL] at HR HNext HLen
            obtain ⟨ln, hln⟩ : ∃ ln, ln = L.length := ⟨_, rfl⟩
            obtain ⟨hro, hrb⟩ := HR.out
            rw [← hln] at hro HLen
            have HO := Lib.hid hro
            have HB := Lib.hid hrb
            have HLn := Lib.hid hln
            have j0 : (0 : Int) ≤ (j : Int) := by omega
            have j1 : (j : Int) < (km : Int) := by omega
            clear hx hfv hL hln hro hrb HR HTk
            by_cases hv : (n : Int) ≤ fv
            · have d1 : decide ((n : Int) ≤ fv) = true := decide_eq_true hv
              have HF : Hid (∀ v' w', w'.ownsRow w8.heap.size 3 1 v' (ln + 1) (L.map intW ++ [intW x]) → Below w8.heap.size w8 w' → ∃ j' : Nat, j' ≤ km ∧ Value.int .i64 ((j : Int) + 1) = .int .i64 (j' : Int) ∧ FarR w8 (farL C ms.length fr n ban more j') v' w') := fun v' w' h1 h2 => by
                refine ⟨j + 1, by omega, by go_num, ?_, h2⟩
                rw [HNext.out, if_pos hv]
                simp only [List.length_append, List.length_cons, List.length_nil, List.map_append, List.map_cons, List.map_nil]
                rw [← HLn.out]
                exact h1
              clear hv HNext
              go_wp2_with (first | (go_at_call 31; (with_reducible refine HFx.out.mono ?_); rintro e w9 ⟨rfl, hq9⟩; have HO9 : Hid (w9.ownsRow w8.heap.size 3 1 u23 ln (L.map intW)) := (by obtain ⟨q9, rfl⟩ := hq9; exact HO.out); have HB9 : Hid (Below w8.heap.size w8 w9) := (by obtain ⟨q9, rfl⟩ := hq9; exact bel_drewN HB.out q9); have fx9 : w9.cell? (a9.add j) = some (.int .i64 x) := (by obtain ⟨q9, rfl⟩ := hq9; exact fx); have HNe := Lib.hid (World.news_of_block (heap_alloc_new w9 (.cells #[.int .i64 x] 3))); have HS9 := HB9.out.size; have hln2 := HLen.out; clear hq9) | (at_builtin; refine wpList_append_lies _ rfl (.tmp 126) (.tmp 131) 22 rfl w8.heap.size 3 i0 (.int .i64 0) 1 8 Tryd.underlying22 hi0 hz0 hz1 hz2 rfl (by decide) u23 ln (L.map intW) rfl (HO9.out.alloc _) ⟨w9.heap.size, 0, none⟩ 1 1 [.int .i64 x] rfl rfl (by have := HNe.out; simpa using this) (by intro u hu; simp at hu; subst hu; rfl) (by decide) (by unfold maxLen; omega) (by omega) (by simp; omega) (w9.heap.size + 1) (by simp) ?_; intro g2 cap5 w10 ho5 hg5 hat5 hlt5; have HFin := Lib.hid (HF.out _ w10 ho5 ((HB9.out.alloc HS9 _).grown hg5 (by simp; omega) (fun k hk => (HO9.out.lt k hk).1))); clear ho5 hg5 hat5 hlt5))
              go_roundw
              case rel => exact HFin.out
              case measure => simp [intOf]; omega
            · have d1 : decide ((n : Int) ≤ fv) = false := decide_eq_false hv
              have HF : Hid (∀ q, ∃ j' : Nat, j' ≤ km ∧ Value.int .i64 ((j : Int) + 1) = .int .i64 (j' : Int) ∧ FarR w8 (farL C ms.length fr n ban more j') u23 (V.drewN q)) := fun q => by
                refine ⟨j + 1, by omega, by go_num, ?_, bel_drewN HB.out q⟩
                rw [HNext.out, if_neg hv, ← HLn.out]
                exact HO.out
              clear hv HNext
              go_wp2_with (go_at_call 31; (with_reducible refine HFx.out.mono ?_); rintro e w9 ⟨rfl, q9, rfl⟩; have HF9 := Lib.hid (HF.out q9))
              go_roundw
              case rel => exact HF9.out
              case measure => simp [intOf]; omega
          · obtain rfl : km = j := by omega
            obtain ⟨A9, c9, rfl, hi9⟩ := HR.out.ints
            have HFq := Lib.hid (HFf.out _ _ _ _ _ c9 _ rfl HMv.out hi9)
            have hkn := HKn.out _ _ _ _ HMv.out
            have d1 : decide ((n : Int) ≤ (K : Int)) = true := decide_eq_true (by omega)
            have d2 : decide ((K : Int) ≤ (F : Int)) = true := decide_eq_true (by omega)
            clear HR hi9
            generalize (farL C ms.length fr n ban more km).length = ll at *
            go_wp2_with (first
              | (go_at_call 28; (with_reducible refine (HC.out _ _ _ _ HMv.out).mono ?_); rintro e w' ⟨rfl, rfl⟩)
              | (go_at_call 14; (with_reducible refine HFq.out.mono ?_); rintro e w10 ⟨a10, c10, rfl, hm10⟩; have H10 := Lib.hid hm10; have HL10 := Lib.hid (HLv.out.grown hm10.2.2); clear hm10)
              | (go_at_call 32; (with_reducible refine (HAl.out _ _ _ _ H10.out.1).mono ?_); rintro e w11 ⟨a11, c11, rfl, hm11⟩; have H11 := Lib.hid hm11; have HL11 := Lib.hid (HL10.out.below hm11.2); have HR11 := Lib.hid (H10.out.2.1.below hm11.2).lst; have HSm := Lib.hid (same_part (w := w11) (l := P) (a2 := ⟨g3, 0, none⟩) (c2 := c3) HR11.out (fun jj hjj => by have h1 := HL11.out.cells jj hjj; rw [← h1]; congr 1; simp [Addr.add] <;> omega) (by have := HPl.out; omega) HPl.out); clear hm11)
              | (go_at_call 18; (with_reducible refine HSm.out.mono ?_); rintro e w12 ⟨rfl, q12, rfl⟩))
            go_ret
            exact ⟨rfl, bel_drewN H11.out.1.bl q12⟩
end Go.Proofs.YtkedjnhidfnlkaaDoor

/-
  The law RouteRest, whole.
-/
namespace Go.Proofs.YtkedjnhidfnlkaaDoor
set_option maxRecDepth 100000
open Go Go.RowKit Rq
open Go.ChangeShapes Go.WideShapes

section
variable {H : Type} {enc : TypeId × Value → H} {w : World} {base : Nat} {spare : Nat → Bool} {held : Bool}
theorem ints_in2 {v : Value} {d : DataW H} {ps : List MemPlace} {r : Reach} {b0 : Nat} (hv : Value.okWide Tryd.prog w r b0 22 v) (h : DataW.Trod enc Tryd.prog w base spare held 22 v d ps) :
    ∃ (A : Option Addr) (l : List Int) (cap : Nat), v = .slice A l.length cap ∧ IntsAt w A l ∧ l.length ≤ cap ∧ (A = none → l = [] ∧ cap = 0) := by
  obtain ⟨a, len, cap, rfl⟩ := okWide_slice Tryd.underlying22 hv
  obtain ⟨fuel, hf⟩ := h
  have hc : Tryd.prog.cellsOf 3 = 1 := by kernel_rfl
  rcases Go.ChangeShapes.open_ints Tryd.underlying22 Tryd.underlying3 hc hf with ⟨h0, _⟩ | ⟨a', len', cap', zs, hcs, hb, hl, hm, hz, _, hi, _⟩
  · have e : (Value.slice a len cap) = .slice none 0 0 := by simpa [Value.cells] using h0
    cases e
    exact ⟨none, [], 0, rfl, fun k hk => by simp at hk, by simp, fun _ => ⟨rfl, rfl⟩⟩
  · have e : (Value.slice a len cap) = .slice (some a') len' cap' := by simpa [Value.cells] using hcs
    cases e
    have hzl : len ≤ zs.length := by rw [hz]; split <;> omega
    have htl : (zs.take len).length = len := by rw [List.length_take]; omega
    refine ⟨some a', zs.take len, cap, by rw [htl], fun j hj => ?_, by rw [htl]; exact hl, fun e => by cases e⟩
    rw [htl] at hj
    have h1 := hi j (by omega)
    refine ⟨a', rfl, ?_, ?_⟩
    · have := World.block_lt_of_cell? w _ h1
      have hbk : (a'.add j).block = a'.block := by unfold Addr.add; split <;> rfl
      rwa [hbk] at this
    · rw [h1]
      simp [List.getD, hj]
end

theorem rr_all (s : ByteArray) (fr to_ : Int) (A B : Option Addr) (ban more : List Int) (cb ck : Nat) (w : World) (hw : Ways w) (hs : s.size ≤ maxLen) (hB : IntsAt w B ban) (hA : IntsAt w A more) (hcb : B = none → ban = [] ∧ cb = 0) :
    Calls Tryd.prog 7 #[.string s, .int .i64 fr, .int .i64 to_, .slice B ban.length cb, .slice A more.length ck] w fun e w' => e = .returned (.bool true) ∧ Below w.heap.size w w' := by
  by_cases h : 600 < s.size ∨ 100 < ban.length ∨ 100 < more.length
  · exact rr_out s fr to_ A B _ cb _ ck w hw hs h
  · have h1 : s.size ≤ 600 := Nat.le_of_not_lt (fun h2 => h (.inl h2))
    have h2 : ban.length ≤ 100 := Nat.le_of_not_lt (fun h2 => h (.inr (.inl h2)))
    have h3 : more.length ≤ 100 := Nat.le_of_not_lt (fun h2 => h (.inr (.inr h2)))
    cases hv : Pure.verdict s.data.toList with
    | bad l c => exact rr_bad s fr to_ A B _ cb _ ck w hw h1 h2 h3 hv
    | good L =>
      have hG := got_of hw hs hv
      cases hf : freeB L.flatten fr && freeB L.flatten to_ with
      | false => exact rr_none s fr to_ A B ban cb _ ck w hw h1 h2 h3 hB hG (z := 2) (by unfold findZ; rw [hf]; rfl) (by omega)
      | true =>
        obtain ⟨h4, h5⟩ := Bool.and_eq_true_iff.1 hf
        obtain ⟨h6, h7⟩ := free_range h4
        obtain ⟨h8, h9⟩ := free_range h5
        obtain ⟨f, rfl⟩ := Int.eq_ofNat_of_zero_le h6
        obtain ⟨t, rfl⟩ := Int.eq_ofNat_of_zero_le h8
        cases hD : dsZ L.length (Pure.wid L) L.flatten ban f t f with
        | none => exact rr_none s f t A B ban cb _ ck w hw h1 h2 h3 hB hG (z := 40) (find_none_ h4 h5 hD (by omega)) (by omega)
        | some D => exact rr_some s f t D A B ban more cb ck w hw h1 h2 h3 hB hA hcb (Pure.good_of hv).1.lo hG h4 h5 (by omega) (by omega) hD
end Go.Proofs.YtkedjnhidfnlkaaDoor
