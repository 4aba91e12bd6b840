/-
  The walk of the law RouteShort: there is a route; the law whole.
-/
import Derived.Test.YtkedjnhidfnlkaaDoorSh2
namespace Go.Proofs.YtkedjnhidfnlkaaDoor
set_option maxRecDepth 100000
set_option linter.unusedSimpArgs false
open Go Go.RowKit Rq

theorem row_cap {w : World} {B n : Nat} {a : Option Addr} {m c : Nat} {xs : List Value} (h : w.ownsRow B 3 1 (.slice a m c) n xs) : n ≤ c := by
  rcases h.2 with ⟨e, h0⟩ | ⟨g, cap, cur, e, _, _, h3, _⟩
  · omega
  · cases e; exact h3
/-- Find, what its list stands on. -/
theorem m1_findc {w0 w : World} {bm gm cm R C : Nat} {ms : List UInt8} (h : M1 w0 bm gm cm R C ms w) {B : Option Addr} {ban : List Int} (hB : IntsAt w B ban) {m cb : Nat} (hm : ban.length = m) (hbm : ban.length ≤ maxLen) {fr to_ bud : Int} {l : List Nat} {z : Int} (hz : findZ R C ms fr to_ ban bud = (l, z)) {n : Nat} (hn : l.length = n) (h0 : 0 < n) :
    Calls Tryd.prog 14 #[.pointer (some ⟨bm, 0, none⟩), .int .i64 fr, .int .i64 to_, .slice B m cb, .int .i64 bud] w fun e w' => ∃ g c, e = .returned (.tuple #[.slice (some ⟨g, 0, none⟩) n c, .int .i64 z]) ∧ (M1 w0 bm gm cm R C ms w' ∧ LstN bm w' (.slice (some ⟨g, 0, none⟩) n c) l ∧ n ≤ c ∧ w.grownBy w' (some bm)) := by
  subst hm hn
  refine (finds_any h.em hB hbm bud).mono ?_
  rw [hz]
  rintro e w' ⟨v, rfl, hx, ho⟩
  have ho' : w'.ownsRow w.heap.size 3 1 v l.length (l.map natV) := ho
  rcases ho'.2 with ⟨_, h1⟩ | ⟨g, cap, cur, rfl, h1, _, h3, _⟩
  · omega
  · refine ⟨g, cap, rfl, h.emx hx, ⟨_, _, rfl, fun j hj => ⟨g, rfl, ?_, int_cells ho' j hj⟩⟩, h3, hx.grown⟩
    have := h.lt
    omega
theorem LstN.cells {bm : Nat} {w : World} {g n c : Nat} {l : List Nat} (h : LstN bm w (.slice (some ⟨g, 0, none⟩) n c) l) : ∀ j, j < l.length → w.cell? ⟨g, j, none⟩ = some (.int .i64 ((l.getD j 0 : Nat) : Int)) := by
  obtain ⟨a, k, e, hc⟩ := h
  cases e
  intro j hj
  obtain ⟨g', e1, _, h2⟩ := hc j hj
  cases e1
  exact h2
theorem LstN.intsc {bm : Nat} {w : World} {g n c : Nat} {l : List Nat} (h : LstN bm w (.slice (some ⟨g, 0, none⟩) n c) l) (h0 : 0 < l.length) : IntsAt w (some ⟨g, 0, none⟩) (intsQ l) ∧ g ≠ bm := by
  obtain ⟨A, k, e, h1, h2⟩ := h.ints
  cases e
  exact ⟨h1, h2 _ rfl h0⟩

set_option maxHeartbeats 4000000 in
theorem sh_some (s : ByteArray) (fr to_ D : Nat) (B : Option Addr) (ban : List Int) (cb : Nat) (w : World) (hw : Ways w) (hs : s.size ≤ 600) (hm : ban.length ≤ 100) (hB : IntsAt w B ban) {R C : Nat} {ms : List UInt8} (hG : Got s w R C ms) (hf : freeB ms (fr : Int) = true) (hf2 : freeB ms (to_ : Int) = true) (hfr : fr < ms.length) (ht : to_ < ms.length) (hD : dsZ R C ms ban fr to_ fr = some D) :
    Calls Tryd.prog 6 #[.string s, .int .i64 (fr : Int), .int .i64 (to_ : Int), .slice B ban.length cb] w fun e w' => e = .returned (.bool true) ∧ Below w.heap.size w w' := by
  have HA := Lib.hid (ralive_any w hw)
  obtain ⟨m, hmm⟩ : ∃ m, m = ban.length := ⟨_, rfl⟩
  obtain ⟨N, hNN⟩ : ∃ N, N = ms.length := ⟨_, rfl⟩
  obtain ⟨n, hn⟩ : ∃ n, n = D + 1 := ⟨_, rfl⟩
  obtain ⟨P, hP⟩ : ∃ P, P = routeZ R C ms ban fr to_ D := ⟨_, rfl⟩
  have hPl : P.length = n := by rw [hP, hn]; exact routeZ_len
  have hDN := dsZ_lt ht hD
  have hsm := hG.small
  have hbm : ban.length ≤ maxLen := by unfold maxLen; omega
  have HP := Lib.hid hG.parse
  have HF1 : Hid (∀ b g cap W, M1 w b g cap R C ms W → Calls Tryd.prog 27 #[.pointer (some ⟨b, 0, none⟩), .int .i64 (fr : Int)] W fun e w' => e = .returned (.bool true) ∧ W = w') := fun b g cap W h => m1_free h hf
  have HF2 : Hid (∀ b g cap W, M1 w b g cap R C ms W → Calls Tryd.prog 27 #[.pointer (some ⟨b, 0, none⟩), .int .i64 (to_ : Int)] W fun e w' => e = .returned (.bool true) ∧ W = w') := fun b g cap W h => m1_free h hf2
  have HC : Hid (∀ b g cap W, M1 w b g cap R C ms W → Calls Tryd.prog 28 #[.pointer (some ⟨b, 0, none⟩)] W fun e w' => e = .returned (.int .i64 (N : Int)) ∧ W = w') := fun b g cap W h => m1_cells h hNN.symm
  have HFi : Hid (∀ b g cap W, M1 w b g cap R C ms W → Calls Tryd.prog 14 #[.pointer (some ⟨b, 0, none⟩), .int .i64 (fr : Int), .int .i64 (to_ : Int), .slice B m cb, .int .i64 (N : Int)] W fun e w' => ∃ g' c, e = .returned (.tuple #[.slice (some ⟨g', 0, none⟩) n c, .int .i64 0]) ∧ (M1 w b g cap R C ms w' ∧ LstN b w' (.slice (some ⟨g', 0, none⟩) n c) P ∧ n ≤ c ∧ W.grownBy w' (some b))) := fun b g cap W h => m1_findc h (h.ints hB) hmm.symm hbm (by rw [hP]; exact find_some_ hf hf2 hD (by omega)) hPl (by omega)
  have HAr : Hid (∀ far : Int, far ≤ 9223372036854775807 → ∀ bo : Bool, ((D : Int) ≤ far ↔ bo = true) → ∀ b g cap W, M1 w b g cap R C ms W → Calls Tryd.prog 23 #[.pointer (some ⟨b, 0, none⟩), .int .i64 (fr : Int), .slice B m cb, .int .i64 far] W fun e w' => ∃ u, e = .returned u ∧ (M1 w b g cap R C ms w' ∧ W.grownBy w' (some b) ∧ Calls Tryd.prog 29 #[u, .int .i64 (to_ : Int)] w' fun e w'' => e = .returned (.bool bo) ∧ w' = w'')) := fun far hfar bo hbo b g cap W h =>
    m1_near h hG.pos (h.ints hB) hmm.symm hbm hG.hN hfr ht hf hfar (by rw [hD]; simpa using hbo)
  have HA1 := Lib.hid (HAr.out (N : Int) (by omega) true (by simp; omega))
  have HA2 := Lib.hid (HAr.out ((n : Int) - 1) (by omega) true (by simp; omega))
  have HA3 := Lib.hid (HAr.out ((n : Int) - 1 - 1) (by omega) false (by simp; omega))
  obtain ⟨F, hF⟩ : ∃ F, F = (ban.filter (fun y => y != (fr : Int))).length := ⟨_, rfl⟩
  have HWo : Hid (∀ W, IntsAt W B ban → Calls Tryd.prog 30 #[.slice B m cb, .int .i64 (fr : Int)] W fun e w' => ∃ A c, e = .returned (.slice A F c) ∧ IntsAt w' A (ban.filter (fun y => y != (fr : Int))) ∧ Below W.heap.size W w') := fun W h => by
    rw [hmm]
    refine (without_any h (by omega) (fr : Int)).mono ?_
    rintro e w' ⟨A, c, rfl, h1, h2, h3⟩
    exact ⟨A, c, by rw [hF], h1, h3⟩
  have HCh : Hid (∀ b g cap W g' c A c5, M1 w b g cap R C ms W → LstN b W (.slice (some ⟨g', 0, none⟩) n c) P → n ≤ c → IntsAt W A (ban.filter (fun y => y != (fr : Int))) → Calls Tryd.prog 20 #[.pointer (some ⟨b, 0, none⟩), .slice (some ⟨g', 0, none⟩) n c, .slice A F c5] W fun e w' => e = .returned (.int .i64 0) ∧ M1 w b g cap R C ms w') := fun b g cap W g' c A c5 h hl hc hA => by
    obtain ⟨h1, h2⟩ := hl.intsc (by omega)
    have hfl := List.length_filter_le (fun y => y != (fr : Int)) ban
    refine (m1_check (cap := c) (z := 0) h h1 hA (by rw [intsQ_length, hPl]) hF.symm (by rw [intsQ_length, hPl]; exact hc) (by rw [intsQ_length, hPl]; unfold maxLen; omega) (by unfold maxLen; omega) (fun _ a e => by cases e; exact h2) (by rw [hP]; exact route_ok ht hf hf2 hD)).mono ?_
    rintro e w' ⟨rfl, h3, _⟩
    exact ⟨rfl, h3⟩
  have HCe : Hid (∀ b W g' c, LstN b W (.slice (some ⟨g', 0, none⟩) n c) P → W.cell? ⟨g', 0, none⟩ = some (.int .i64 (fr : Int)) ∧ W.cell? ⟨g', n - 1, none⟩ = some (.int .i64 (to_ : Int))) := fun b W g' c h => by
    have h1 := h.cells 0 (by omega)
    have h2 := h.cells D (by omega)
    rw [hP, routeZ_head] at h1
    rw [hP, routeZ_last ht hD] at h2
    exact ⟨h1, by rw [show n - 1 = D by omega]; exact h2⟩
  have hw1 : IntKind.i64.wrap ((n : Int) - 1) = (n : Int) - 1 := IntWalk.i64_in _ (by omega)
  have hw2 : IntKind.i64.wrap ((n : Int) - 1 - 1) = (n : Int) - 1 - 1 := IntWalk.i64_in _ (by omega)
  have HBB := Lib.hid hB
  have n1 : 1 ≤ n := by omega
  have n2 : n ≤ 1024 := by omega
  rw [← hmm] at hm ⊢
  clear hw hB hG hf hf2 hD hmm hNN hP hPl HAr hn hF
  go_enter Tryd.func6, Tryd.ntmps6
  go_wp2_with (first
    | (go_at_call 26; (with_reducible refine HA.out.mono ?_); rintro e w1 ⟨rfl, hb⟩)
    | (go_at_call 12; (with_reducible refine (HP.out w1 hb).mono ?_); rintro e w2 ⟨b, g, cap, rfl, hm2⟩; have H2 := Lib.hid hm2; clear hm2)
    | (go_at_call 27; (with_reducible refine (HF1.out _ _ _ _ H2.out).mono ?_); rintro e w' ⟨rfl, rfl⟩)
    | (go_at_call 27; (with_reducible refine (HF2.out _ _ _ _ H2.out).mono ?_); rintro e w' ⟨rfl, rfl⟩)
    | (go_at_call 28; (with_reducible refine (HC.out _ _ _ _ H2.out).mono ?_); rintro e w' ⟨rfl, rfl⟩)
    | (go_at_call 14; (with_reducible refine (HFi.out _ _ _ _ H2.out).mono ?_); rintro e w3 ⟨g3, c3, rfl, hm3⟩; have H3 := Lib.hid hm3; clear hm3)
    | (go_at_call 28; (with_reducible refine (HC.out _ _ _ _ H3.out.1).mono ?_); rintro e w' ⟨rfl, rfl⟩)
    | (go_at_call 23; (with_reducible refine (HA1.out _ _ _ _ H3.out.1).mono ?_); rintro e w4 ⟨u4, rfl, hm4⟩; have H4 := Lib.hid hm4; have HL4 : Hid (LstN b w4 (.slice (some ⟨g3, 0, none⟩) n c3) P) := H3.out.2.1.grown H4.out.2.1; obtain ⟨f0, fD⟩ := HCe.out _ _ _ _ HL4.out; clear hm4)
    | (go_at_call 29; (with_reducible refine H4.out.2.2.mono ?_); rintro e w' ⟨rfl, rfl⟩)
    | (go_at_call 30; (with_reducible refine (HWo.out _ (H4.out.1.ints HBB.out)).mono ?_); rintro e w5 ⟨A5, c5, rfl, hi5, hb5⟩; have H5 : Hid (M1 w b g cap R C ms w5 ∧ LstN b w5 (.slice (some ⟨g3, 0, none⟩) n c3) P) := ⟨H4.out.1.below hb5, HL4.out.below hb5⟩; have HI5 := Lib.hid hi5; clear hi5 hb5)
    | (go_at_call 20; (with_reducible refine (HCh.out _ _ _ _ _ _ _ _ H5.out.1 H5.out.2 H3.out.2.2.1 HI5.out).mono ?_); rintro e w6 ⟨rfl, hm6⟩; have H6 := Lib.hid hm6; clear hm6)
    | (go_at_call 23; (with_reducible refine (HA2.out _ _ _ _ H6.out).mono ?_); rintro e w7 ⟨u7, rfl, hm7⟩; have H7 := Lib.hid hm7; clear hm7)
    | (go_at_call 29; (with_reducible refine H7.out.2.2.mono ?_); rintro e w' ⟨rfl, rfl⟩)
    | (go_at_call 23; (with_reducible refine (HA3.out _ _ _ _ H7.out.1).mono ?_); rintro e w8 ⟨u8, rfl, hm8⟩; have H8 := Lib.hid hm8; clear hm8)
    | (go_at_call 29; (with_reducible refine H8.out.2.2.mono ?_); rintro e w' ⟨rfl, rfl⟩))
  go_ret
  exact ⟨rfl, H8.out.1.bl⟩

theorem sh_all (s : ByteArray) (fr to_ : Int) (B : Option Addr) (ban : List Int) (cb : Nat) (w : World) (hw : Ways w) (hs : s.size ≤ maxLen) (hB : IntsAt w B ban) :
    Calls Tryd.prog 6 #[.string s, .int .i64 fr, .int .i64 to_, .slice B ban.length cb] w fun e w' => e = .returned (.bool true) ∧ Below w.heap.size w w' := by
  by_cases h : 600 < s.size ∨ 100 < ban.length
  · exact sh_out s fr to_ B _ cb w hw hs h
  · have h1 : s.size ≤ 600 := Nat.le_of_not_lt (fun h2 => h (.inl h2))
    have h3 : ban.length ≤ 100 := Nat.le_of_not_lt (fun h2 => h (.inr h2))
    cases hv : Pure.verdict s.data.toList with
    | bad l c => exact sh_bad s fr to_ B _ cb w hw h1 h3 hv
    | good L =>
      cases hf : freeB L.flatten fr && freeB L.flatten to_ with
      | false => exact sh_wall s fr to_ B _ cb w hw h1 h3 hv hf
      | true =>
        obtain ⟨h4, h5⟩ := Bool.and_eq_true_iff.1 hf
        obtain ⟨h6, h7⟩ := free_range h4
        obtain ⟨h8, h9⟩ := free_range h5
        obtain ⟨f, rfl⟩ := Int.eq_ofNat_of_zero_le h6
        obtain ⟨t, rfl⟩ := Int.eq_ofNat_of_zero_le h8
        have hG := got_of hw hs hv
        cases hD : dsZ L.length (Pure.wid L) L.flatten ban f t f with
        | none => exact sh_none s f t B ban cb w hw h1 h3 hB hG h4 h5 (by omega) (by omega) hD
        | some D => exact sh_some s f t D B ban cb w hw h1 h3 hB hG h4 h5 (by omega) (by omega) hD
end Go.Proofs.YtkedjnhidfnlkaaDoor
