/-
  The document's calls, and the program's own Same.
-/
import Derived.Test.YtijhkjegpcmjoaaCm2
namespace Go.Proofs.Ytijhkjegpcmjoaa
set_option maxRecDepth 100000
set_option linter.unusedSimpArgs false
open Go Go.RowKit Cl

namespace Cl
theorem has_isC {s : List Cm} (hs : Okr s) {c : Int} (h : isC c = false) : has s c = false := by
  cases hh : has s c with
  | false => rfl
  | true =>
    have := hs.cel _ (at_mem hh)
    rw [(has_lt hh).2] at this
    unfold isC at h
    simp at h
    omega
theorem mem_dropL {s : List Cm} (hr : Ris s) {c : Int} (hh : has s c = true) {x : Cm} : x ∈ dropL s c ↔ x ∈ s ∧ x.c ≠ c := by
  have h1 := has_lt hh
  have hg : at_ s c = s[idx s c]'h1.1 := getD_eq h1.1
  unfold dropL
  rw [if_pos hh, List.mem_eraseIdx_iff_getElem]
  constructor
  · rintro ⟨i, hi, hne, rfl⟩
    refine ⟨List.getElem_mem hi, fun e => hne ?_⟩
    have h2 := idx_mem hr (List.getElem_mem hi)
    rw [e] at h2
    rcases Nat.lt_trichotomy i (idx s c) with h | h | h
    · have := ris_lt hr h h1.1
      rw [getD_eq hi] at this
      have := h1.2
      unfold at_ at this
      omega
    · exact h
    · have := ris_lt hr h hi
      rw [getD_eq hi] at this
      have := h1.2
      unfold at_ at this
      omega
  · rintro ⟨hx, hne⟩
    obtain ⟨i, hi, rfl⟩ := List.getElem_of_mem hx
    refine ⟨i, hi, fun e => hne ?_, rfl⟩
    subst e
    rw [← hg]
    exact h1.2
theorem ris_drop {s : List Cm} (hr : Ris s) (c : Int) : Ris (dropL s c) := by
  unfold dropL
  split
  · exact hr.sublist (List.eraseIdx_sublist _ _)
  · exact hr
theorem has_drop {s : List Cm} (hr : Ris s) {c : Int} (hh : has s c = true) (n : Int) : has (dropL s c) n = if n = c then false else has s n := by
  rw [Bool.eq_iff_iff, has_iff (ris_drop hr c)]
  by_cases e : n = c
  · rw [if_pos e]
    constructor
    · rintro ⟨x, hx, h⟩
      exact absurd (h.trans e) ((mem_dropL hr hh).1 hx).2
    · intro h; cases h
  · rw [if_neg e, has_iff hr]
    constructor
    · rintro ⟨x, hx, h⟩
      exact ⟨x, ((mem_dropL hr hh).1 hx).1, h⟩
    · rintro ⟨x, hx, h⟩
      exact ⟨x, (mem_dropL hr hh).2 ⟨hx, fun e' => e (h.symm.trans e')⟩, h⟩
theorem at_drop {s : List Cm} (hr : Ris s) {c : Int} (hh : has s c = true) {n : Int} (hn : has (dropL s c) n = true) : at_ (dropL s c) n = at_ s n := by
  have hm := at_mem hn
  have hac := (has_lt hn).2
  have := (idx_mem hr ((mem_dropL hr hh).1 hm).1).2
  rw [hac] at this
  exact this.symm
end Cl
/-- A cell goes: one store. -/
theorem RfAt.out {w : World} {b : Nat} {t : List Cm} (h : RfAt w b t) (hr : Ris t) {n : Nat} (hn : n < 1024) (hh : has t (n : Int) = true) :
    RfAt (w.setCell ⟨b, n, none⟩ (.bool false)) b (dropL t n) := by
  obtain ⟨cs, h1, h2, h3⟩ := h
  refine ⟨_, blk_set h1 n (.bool false), by simpa using h2, fun j hj => ?_⟩
  obtain ⟨q1, g', q2, q3⟩ := h3 j hj
  have hd := has_drop hr hh (j : Int)
  by_cases e : n = j
  · subst e
    rw [if_pos rfl] at hd
    refine ⟨?_, g', ?_, fun h9 => ?_⟩
    · rw [hd]; simp [Array.getElem?_setIfInBounds]; omega
    · rw [← q2]; simp [Array.getElem?_setIfInBounds]
    · rw [hd] at h9; cases h9
  · have ne : ¬ (j : Int) = (n : Int) := by omega
    rw [if_neg ne] at hd
    refine ⟨?_, g', ?_, fun h9 => ?_⟩
    · rw [hd, ← q1]; simp [Array.getElem?_setIfInBounds]
      intro h; omega
    · rw [← q2]; simp [Array.getElem?_setIfInBounds]
      intro h; omega
    · rw [at_drop hr hh h9]
      rw [hd] at h9
      exact q3 h9
set_option maxHeartbeats 2000000 in
theorem rfind_any {w : World} {b : Nat} {s : List Cm} (h : RfAt w b s) (hs : Okr s) (c : Int) :
    Calls Try.prog 18 #[.pointer (some ⟨b, 0, none⟩), .int .i64 c] w fun e w' => e = .returned (.tuple #[.int .u32 (genG s c), .bool (has s c)]) ∧ Below w.heap.size w w' := by
  have HB : Hid (∀ n, Below w.heap.size w (w.drewN n)) := fun n => bel_drewN (Below.refl _ _) n
  have HKn : Hid (∀ V, Calls Try.prog 30 #[.int .i64 c] V fun e w' => e = .returned (.bool (isC c)) ∧ w' = V) := fun V => known_any V c
  cases hi : isC c with
  | false =>
    have hh := has_isC hs hi
    have hg : genG s c = 0 := by unfold genG; rw [if_neg (by rw [hh]; decide)]
    rw [hi] at HKn
    rw [hh, hg]
    clear h hs hi hh hg
    go_enter Try.func18, Try.ntmps18
    go_wp2_with (go_at_call 30; refine (HKn.out _).mono ?_; rintro e w9 ⟨rfl, rfl⟩)
    first | exact ⟨rfl, HB.out 0⟩ | (go_ret2; exact ⟨rfl, HB.out 0⟩)
  | true =>
    have hc := isC_in hi
    obtain ⟨n, rfl⟩ := Int.eq_ofNat_of_zero_le hc.1
    have hn : n < 1024 := by omega
    obtain ⟨z0, f0, f1, g, z1, hg⟩ := h.is hn
    have n0 : (0 : Int) ≤ (n : Int) := by omega
    have n1 : (n : Int) < 1024 := by omega
    rw [hi] at HKn
    cases hh : has s (n : Int) with
    | false =>
      have hg0 : genG s (n : Int) = 0 := by unfold genG; rw [if_neg (by rw [hh]; decide)]
      rw [hh] at z0
      rw [hg0]
      clear hg0 hg h hs hi hh hc z1
      go_enter Try.func18, Try.ntmps18
      go_wp2_with (go_at_call 30; refine (HKn.out _).mono ?_; rintro e w9 ⟨rfl, rfl⟩)
      first | exact ⟨rfl, HB.out 0⟩ | (go_ret2; exact ⟨rfl, HB.out 0⟩)
    | true =>
      have hg0 : genG s (n : Int) = g := by unfold genG; rw [if_pos hh, hg hh]
      rw [hh] at z0
      rw [hg0]
      clear hg0 hg h hs hi hh hc
      go_enter Try.func18, Try.ntmps18
      go_wp2_with (go_at_call 30; refine (HKn.out _).mono ?_; rintro e w9 ⟨rfl, rfl⟩)
      first | exact ⟨rfl, HB.out 0⟩ | (go_ret2; exact ⟨rfl, HB.out 0⟩)
set_option maxHeartbeats 2000000 in
theorem rdrop_any {w : World} {b : Nat} {s : List Cm} (h : RfAt w b s) (hs : Okr s) (c : Int) :
    Calls Try.prog 12 #[.pointer (some ⟨b, 0, none⟩), .int .i64 c] w fun e w' => e = .returned (.tuple #[.int .u32 (genG s c), .bool (has s c)]) ∧ RfAt w' b (dropL s c) ∧ Kept (fun k => k = b) w w' := by
  have HFd := Lib.hid (rfind_any h hs c)
  have HH := Lib.hid h
  cases hh : has s c with
  | false =>
    have hd : dropL s c = s := by unfold dropL; rw [if_neg (by rw [hh]; decide)]
    rw [hh] at HFd
    rw [hd]
    clear hd hs hh h
    generalize genG s c = g at *
    go_enter Try.func12, Try.ntmps12
    go_wp2_with fail
    refine HFd.out.mono ?_
    rintro e W1 ⟨rfl, hb⟩
    have HF : Hid (RfAt W1 b s ∧ Kept (fun k => k = b) w W1) := ⟨HH.out.below hb, Kept.of_below hb (Nat.le_refl _)⟩
    clear hb HFd HH
    go_wp2
    first | exact ⟨rfl, HF.out⟩ | (go_ret2; exact ⟨rfl, HF.out⟩)
  | true =>
    have hc : isC c = true := by
      cases hi : isC c with
      | true => rfl
      | false => rw [has_isC hs hi] at hh; cases hh
    have hc := isC_in hc
    obtain ⟨n, rfl⟩ := Int.eq_ofNat_of_zero_le hc.1
    have hn : n < 1024 := by omega
    have n0 : (0 : Int) ≤ (n : Int) := by omega
    have n1 : (n : Int) < 1024 := by omega
    rw [hh] at HFd
    have HR := Lib.hid hs.ris
    have HHas := Lib.hid hh
    clear hs hh hc h
    generalize genG s (n : Int) = g at *
    go_enter Try.func12, Try.ntmps12
    go_wp2_with fail
    refine HFd.out.mono ?_
    rintro e W1 ⟨rfl, hb⟩
    have h1 := HH.out.below hb
    obtain ⟨z0, f0, _, _, _, _⟩ := h1.is hn
    rw [HHas.out] at z0
    have HF : Hid (RfAt (W1.setCell ⟨b, n, none⟩ (.bool false)) b (dropL s (n : Int)) ∧ Kept (fun k => k = b) w (W1.setCell ⟨b, n, none⟩ (.bool false))) := ⟨h1.out HR.out hn HHas.out, (Kept.of_below (X := fun k => k = b) hb (Nat.le_refl _)).setCell (p := ⟨b, n, none⟩) (.inl rfl) _⟩
    clear hb HFd HH h1 HR HHas
    go_wp2
    first | exact ⟨rfl, HF.out⟩ | (go_ret2; exact ⟨rfl, HF.out⟩)
set_option maxHeartbeats 2000000 in
theorem rtake_any {w : World} {b : Nat} {s : List Cm} (h : RfAt w b s) (hs : Ok s) (c g : Int) :
    Calls Try.prog 10 #[.pointer (some ⟨b, 0, none⟩), .int .i64 c, .int .u32 g] w fun e w' => e = .returned (.int .i64 (takeE s c)) ∧ RfAt w' b (takeL s ⟨c, g⟩) ∧ Kept (fun k => k = b) w w' := by
  have HKn : Hid (∀ V, Calls Try.prog 30 #[.int .i64 c] V fun e w' => e = .returned (.bool (isC c)) ∧ w' = V) := fun V => known_any V c
  have HAll : Hid (∀ q, Calls Try.prog 23 #[.pointer (some ⟨b, 0, none⟩)] (w.drewN q) fun e w' => ∃ A cap, e = .returned (.slice A s.length cap) ∧ Below w.heap.size w w') := by
    intro q
    refine (rall_any (w := w.drewN q) (h.blk rfl) hs.okr (by have := hs.len; omega)).mono ?_
    rintro e w' ⟨v, rfl, hr, hb⟩
    obtain ⟨A, cap, rfl⟩ := row_isM hr
    exact ⟨A, cap, rfl, (bel_drewN (Below.refl _ _) q).trans hb⟩
  have hE : takeE s c = if isC c = false then 2 else if has s c then 150 else if s.length = 16 then 151 else 0 := rfl
  have hL : takeL s ⟨c, g⟩ = if takeE s c = 0 then ins s ⟨c, g⟩ else s := rfl
  have h16 := hs.len
  cases hi : isC c with
  | false =>
    rw [if_pos hi] at hE
    rw [hE] at hL
    rw [hE, hL, if_neg (by decide)]
    have HF : Hid (∀ n, RfAt (w.drewN n) b s ∧ Kept (fun k => k = b) w (w.drewN n)) := fun n => ⟨h.blk rfl, (Kept.refl _ w).drewN n⟩
    rw [hi] at HKn
    clear h hs hi hE hL h16 HAll
    go_enter Try.func10, Try.ntmps10
    go_wp2_with (go_at_call 30; refine (HKn.out _).mono ?_; rintro e w9 ⟨rfl, rfl⟩)
    first | exact ⟨rfl, HF.out 0⟩ | (go_ret; exact ⟨rfl, HF.out 0⟩)
  | true =>
    rw [if_neg (by rw [hi]; decide)] at hE
    have hc := isC_in hi
    obtain ⟨n, rfl⟩ := Int.eq_ofNat_of_zero_le hc.1
    have hn : n < 1024 := by omega
    have n0 : (0 : Int) ≤ (n : Int) := by omega
    have n1 : (n : Int) < 1024 := by omega
    obtain ⟨z0, f0, f1, gz, z1, _⟩ := h.is hn
    rw [hi] at HKn
    cases hh : has s (n : Int) with
    | true =>
      rw [if_pos hh] at hE
      rw [hE] at hL
      rw [hE, hL, if_neg (by decide)]
      have HF : Hid (∀ n, RfAt (w.drewN n) b s ∧ Kept (fun k => k = b) w (w.drewN n)) := fun n => ⟨h.blk rfl, (Kept.refl _ w).drewN n⟩
      rw [hh] at z0
      clear h hs hi hE hL h16 HAll hh hc z1
      go_enter Try.func10, Try.ntmps10
      go_wp2_with (go_at_call 30; refine (HKn.out _).mono ?_; rintro e w9 ⟨rfl, rfl⟩)
      first | exact ⟨rfl, HF.out 0⟩ | (go_ret; exact ⟨rfl, HF.out 0⟩)
    | false =>
      rw [if_neg (by rw [hh]; decide)] at hE
      rw [hh] at z0
      by_cases hl : s.length = 16
      · rw [if_pos hl] at hE
        rw [hE] at hL
        rw [hE, hL, if_neg (by decide)]
        have HF : Hid (∀ V, Below w.heap.size w V → RfAt V b s ∧ Kept (fun k => k = b) w V) := fun V hV => ⟨h.below hV, Kept.of_below hV (Nat.le_refl _)⟩
        rw [hl] at HAll
        clear h hs hi hE hL h16 hh hc z1 hl
        go_enter Try.func10, Try.ntmps10
        go_wp2_with (first | (go_at_call 30; refine (HKn.out _).mono ?_; rintro e w9 ⟨rfl, rfl⟩) | (go_at_call 23; (first | refine (HAll.out 0).mono ?_ | refine (HAll.out 1).mono ?_); rintro e w9 ⟨A, cap, rfl, hb9⟩; have HF := Lib.hid (HF.out _ hb9); clear hb9 HAll))
        first | exact ⟨rfl, HF.out⟩ | (go_ret; exact ⟨rfl, HF.out⟩)
      · rw [if_neg hl] at hE
        rw [hE, if_pos rfl] at hL
        rw [hE, hL]
        have d1 : decide ((16 : Int) ≤ (s.length : Int)) = false := by simp; omega
        have hne : ∀ V, Below w.heap.size w V → V.cell? ⟨b, n, none⟩ = some (.bool false) ∧ V.frozen? ⟨b, n, none⟩ = false ∧ (V.setCell ⟨b, n, none⟩ (.bool true)).cell? ⟨b, 1024 + n, none⟩ = some (.int .u32 gz) ∧ V.frozen? ⟨b, 1024 + n, none⟩ = false ∧ RfAt ((V.setCell ⟨b, n, none⟩ (.bool true)).setCell ⟨b, 1024 + n, none⟩ (.int .u32 g)) b (ins s ⟨n, g⟩) ∧ Kept (fun k => k = b) w ((V.setCell ⟨b, n, none⟩ (.bool true)).setCell ⟨b, 1024 + n, none⟩ (.int .u32 g)) := by
          intro V hV
          have hr := h.below hV
          have hb1 := hV.block b h.lt
          have c0 : V.cell? ⟨b, n, none⟩ = some (.bool false) := (World.cell?_of_block (a := ⟨b, n, none⟩) hb1).trans z0
          have c1 : V.cell? ⟨b, 1024 + n, none⟩ = some (.int .u32 gz) := (World.cell?_of_block (a := ⟨b, 1024 + n, none⟩) hb1).trans z1
          obtain ⟨_, f0, f1, _⟩ := hr.is hn
          obtain ⟨cs, hcs, _⟩ := id hr
          have hs2 := blk_set hcs n (.bool true)
          refine ⟨c0, f0, ?_, ?_, (hr.put hs.ris hn hh).blk rfl, ?_⟩
          · show (V.setCell ⟨b, n, none⟩ (.bool true)).cell? ⟨b, 1024 + n, none⟩ = _
            rw [blk_cell hs2, Array.getElem?_setIfInBounds, if_neg (by omega)]
            rw [blk_cell hcs] at c1
            exact c1
          · exact f1
          · exact ((((Kept.of_below (X := fun k => k = b) hV (Nat.le_refl _)).setCell (p := ⟨b, n, none⟩) (.inl rfl) _)).setCell (p := ⟨b, 1024 + n, none⟩) (.inl rfl) _)
        have HNe := Lib.hid hne
        clear h hs hi hE hL h16 hh hc z1 hl hne f0 f1
        generalize s.length = L at *
        go_enter Try.func10, Try.ntmps10
        go_wp2_with (go_at_call 30; refine (HKn.out _).mono ?_; rintro e w9 ⟨rfl, rfl⟩)
        refine (HAll.out 0).mono ?_
        rintro e V ⟨A, cap, rfl, hb9⟩
        obtain ⟨a1, a2, a3, a4, a5⟩ := HNe.out V hb9
        have HF := Lib.hid a5
        clear hb9 HAll HNe a5 z0 HKn
        go_wp2
        first | exact ⟨rfl, HF.out⟩ | (go_ret; exact ⟨rfl, HF.out⟩)
set_option maxHeartbeats 2000000 in
/-- The copied Equal. -/
theorem equal_any {w : World} {va vb : Value} {la lb : List Cm} (ha : IsM w va la) (hb : IsM w vb lb) (h1 : la.length ≤ 100000) :
    Calls Try.prog 32 #[va, vb] w fun e w' => e = .returned (.bool (decide (la = lb))) ∧ ∃ n, w' = w.drewN n := by
  obtain ⟨A, ca, rfl, hca⟩ := ha
  obtain ⟨B, cb, rfl, hcb⟩ := hb
  by_cases hl : la.length = lb.length
  · have HA : Hid (∀ q, ∀ j, j < la.length → ∃ g, A = some ⟨g, 0, none⟩ ∧ (w.drewN q).cell? ⟨g, j * 2, none⟩ = some (.int .i64 (la.getD j c0).c) ∧ (w.drewN q).cell? ⟨g, j * 2 + 1, none⟩ = some (.int .u32 (la.getD j c0).g)) := fun _ j hj => hca j hj
    have HB : Hid (∀ q, ∀ j, j < la.length → ∃ g, B = some ⟨g, 0, none⟩ ∧ (w.drewN q).cell? ⟨g, j * 2, none⟩ = some (.int .i64 (lb.getD j c0).c) ∧ (w.drewN q).cell? ⟨g, j * 2 + 1, none⟩ = some (.int .u32 (lb.getD j c0).g)) := fun _ j hj => hcb j (by omega)
    rw [← hl]
    have HL := Lib.hid hl
    clear hca hcb hl
    obtain ⟨n, hn⟩ : ∃ n, n = la.length := ⟨_, rfl⟩
    rw [← hn] at HA HB h1 ⊢
    have HN := Lib.hid hn
    clear hn
    have hEq : ∀ (x0 x1 y0 y1 : Int) (w : World), (binOp .neq 26 (.agg #[.int .i64 x0, .int .u32 x1]) (.agg #[.int .i64 y0, .int .u32 y1])).run Try.prog w = .ok (.bool (!(x0 == y0 && x1 == y1))) w := fun x0 x1 y0 y1 w => by
      rw [run_neq_struct, eqCm]; rfl
    go_enter Try.func32, Try.ntmps32
    go_wp2
    go_loopw [13, 5] (fun u _ wr => ∃ k : Nat, k ≤ n ∧ u = .int .i64 (k : Int) ∧ la.take k = lb.take k ∧ ∃ q, wr = w.drewN q) (fun u _ _ => n - (intOf u).toNat)
    case atStart => exact ⟨0, Nat.zero_le _, rfl, by simp, 0, rfl⟩
    case round =>
      obtain ⟨k, hk, rfl, he, q, rfl⟩ := hrel
      have HE := Lib.hid he
      clear he
      by_cases hlt : k < n
      · obtain ⟨ga, rfl, fa0, fa1⟩ := HA.out q k hlt
        obtain ⟨gb, rfl, fb0, fb1⟩ := HB.out q k hlt
        have hla : k < la.length := by rw [← HN.out]; exact hlt
        have hlb : k < lb.length := by rw [← HL.out]; exact hla
        have HS : Hid (la.getD k c0 = lb.getD k c0 → la.take (k + 1) = lb.take (k + 1)) := by
          intro h
          rw [take_snoc_m hla, take_snoc_m hlb, HE.out, h]
        have HD : Hid (la.getD k c0 ≠ lb.getD k c0 → la ≠ lb) := by
          rintro h rfl
          exact h rfl
        have hE := eqCm_iff (la.getD k c0) (lb.getD k c0)
        have k0 : (0 : Int) ≤ (k : Int) := by omega
        have k1 : (k : Int) < (n : Int) := by omega
        have HDr : Hid (∀ m, ∃ p, (w.drewN q).drewN m = w.drewN p) := fun m => ⟨q + m, by simp [World.drewN, Nat.add_assoc]⟩
        by_cases hxy : la.getD k c0 = lb.getD k c0
        · have HT := Lib.hid (HS.out hxy)
          rw [decide_eq_true hxy] at hE
          clear HS HD hla hlb hxy
          generalize la.getD k c0 = x at *
          generalize lb.getD k c0 = y at *
          obtain ⟨x0, x1⟩ := x
          obtain ⟨y0, y1⟩ := y
          simp only at *
          generalize w.drewN q = wq at *
          go_wp2
          go_quiet (fail)
          go_wp2
          go_roundw
          case rel => exact ⟨k + 1, by omega, by go_num, HT.out, HDr.out nq⟩
          case measure => simp [intOf]; omega
        · have HF := Lib.hid (HD.out hxy)
          rw [decide_eq_false hxy] at hE
          clear HS HD hla hlb hxy
          generalize la.getD k c0 = x at *
          generalize lb.getD k c0 = y at *
          obtain ⟨x0, x1⟩ := x
          obtain ⟨y0, y1⟩ := y
          simp only at *
          generalize w.drewN q = wq at *
          go_wp2
          go_quiet (fail)
          go_wp2
          go_ret
          refine ⟨?_, HDr.out nq⟩
          rw [decide_eq_false HF.out]
          rfl
      · obtain rfl : k = n := by omega
        have HQ : Hid (la = lb) := by
          have h1 := HE.out
          rw [List.take_of_length_le (by rw [← HN.out]; exact Nat.le_refl _), List.take_of_length_le (by rw [← HL.out, ← HN.out]; exact Nat.le_refl _)] at h1
          exact h1
        have HDr : Hid (∃ p, w.drewN q = w.drewN p) := ⟨q, rfl⟩
        generalize w.drewN q = wq at HDr ⊢
        go_wp2
        go_ret
        exact ⟨by rw [decide_eq_true HQ.out]; rfl, HDr.out⟩
  · have HF : Hid (la ≠ lb) := fun e => hl (by rw [e])
    generalize la.length = m at *
    generalize lb.length = n at *
    go_enter Try.func32, Try.ntmps32
    go_wp2
    go_ret
    exact ⟨by rw [decide_eq_false HF.out]; rfl, 0, rfl⟩

end Go.Proofs.Ytijhkjegpcmjoaa
