/-
  The law GridReads: its walk.
-/
import Derived.Test.YtjbdaeblaalboaaReads
import Derived.Deep.RegionHeld3
import Derived.Deep.DeepCutAuto
import Derived.Deep.LoopGhost
namespace Go.Proofs.Ytjbdaeblaalboaa
open Go.RowKit

/-- How many free cells lie ahead of cell j - 1. -/
def cnt (ms : List UInt8) (j : Nat) : Nat := (freeK ms (min (j - 1) ms.length)).length

theorem freeK_prefix (ms : List UInt8) {k n : Nat} (h : k ≤ n) : freeK ms k <+: freeK ms n := by
  induction n with
  | zero => obtain rfl : k = 0 := by omega
            exact List.prefix_refl _
  | succ n ih =>
    by_cases hk : k = n + 1
    · subst hk; exact List.prefix_refl _
    · refine (ih (by omega)).trans ?_
      cases hf : (ms.getD n 0 != 35) with
      | true => rw [freeK_hit hf]; exact List.prefix_append _ _
      | false => rw [freeK_miss hf]; exact List.prefix_refl _

theorem cnt_hit {ms : List UInt8} {k : Nat} (hk : k < ms.length) (hf : (ms.getD k 0 != 35) = true) : cnt ms (k + 1) < (frees ms).length ∧ (frees ms)[cnt ms (k + 1)]? = some k ∧ cnt ms (k + 2) = cnt ms (k + 1) + 1 := by
  have e1 : min (k + 1 - 1) ms.length = k := by omega
  have e2 : min (k + 2 - 1) ms.length = k + 1 := by omega
  have h1 : freeK ms (k + 1) <+: frees ms := freeK_prefix ms hk
  have h2 := freeK_hit hf
  unfold cnt
  rw [e1, e2]
  have h3 : (frees ms)[(freeK ms k).length]? = some k := by
    obtain ⟨t, ht⟩ := h1
    rw [← ht, h2]; simp
  refine ⟨(List.getElem?_eq_some_iff.1 h3).1, h3, ?_⟩
  rw [h2]; simp

theorem cnt_miss {ms : List UInt8} {j : Nat} (hf : freeB ms ((j : Int) - 1) = false) : cnt ms (j + 1) = cnt ms j := by
  unfold cnt
  by_cases h0 : j = 0
  · subst h0; rfl
  · by_cases h1 : j - 1 < ms.length
    · have e1 : min (j - 1) ms.length = j - 1 := by omega
      have e2 : min (j + 1 - 1) ms.length = (j - 1) + 1 := by omega
      rw [e1, e2]
      have : (ms.getD (j - 1) 0 != 35) = false := by
        have e : (j : Int) - 1 = ((j - 1 : Nat) : Int) := by omega
        rw [e, freeB_nat h1] at hf; exact hf
      rw [freeK_miss this]
    · have e1 : min (j - 1) ms.length = ms.length := by omega
      have e2 : min (j + 1 - 1) ms.length = ms.length := by omega
      rw [e1, e2]

theorem cnt_end (ms : List UInt8) : cnt ms (ms.length + 2) = (frees ms).length := by
  unfold cnt frees
  have : min (ms.length + 2 - 1) ms.length = ms.length := by omega
  rw [this]

theorem round_hit {ms : List UInt8} {i : Int} (h : freeB ms i = true) : 0 ≤ i ∧ i < (ms.length : Int) ∧ cnt ms (i + 1).toNat < (frees ms).length ∧ (frees ms)[cnt ms (i + 1).toNat]? = some i.toNat ∧ cnt ms (i + 1 + 1).toNat = cnt ms (i + 1).toNat + 1 := by
  have hb : 0 ≤ i ∧ i < (ms.length : Int) := by
    unfold freeB at h
    simp only [Bool.and_eq_true, decide_eq_true_eq] at h
    exact h.1
  obtain ⟨k, rfl⟩ := Int.eq_ofNat_of_zero_le hb.1
  have hk : k < ms.length := by omega
  rw [freeB_nat hk] at h
  have e1 : ((k : Int) + 1).toNat = k + 1 := by omega
  have e2 : ((k : Int) + 1 + 1).toNat = k + 2 := by omega
  have e3 : ((k : Nat) : Int).toNat = k := by omega
  rw [e1, e2, e3]
  exact ⟨hb.1, hb.2, cnt_hit hk h⟩

theorem round_miss {ms : List UInt8} {i : Int} (h0 : -1 ≤ i) (h : freeB ms i = false) : cnt ms (i + 1 + 1).toNat = cnt ms (i + 1).toNat := by
  have e : i = (((i + 1).toNat : Nat) : Int) - 1 := by omega
  have := cnt_miss (ms := ms) (j := (i + 1).toNat) (by rw [← e]; exact h)
  have e2 : (i + 1 + 1).toNat = (i + 1).toNat + 1 := by omega
  rw [e2, this]

def LoopRel (ms : List UInt8) (w3 : World) (N : Nat) (n i : Value) (wr : World) : Prop :=
  ∃ (m : Nat) (j : Int), -1 ≤ j ∧ j ≤ (N : Int) + 1 ∧ i = .int .i64 j ∧ n = .int .i64 (cnt ms (j + 1).toNat : Int) ∧ wr = w3.drewN m

set_option maxHeartbeats 400000 in
theorem reads_long (s : ByteArray) (w : World) (h : 1200 < s.size) :
    Calls Try.prog 3 #[.string s] w fun e w' => e = .returned (.bool true) ∧ Below w.heap.size w w' := by
  go_enter Try.func3, Try.ntmps3
  go_wp2_with fail
  go_ret
  exact ⟨rfl, Below.refl _ _⟩

set_option maxHeartbeats 1000000 in
set_option maxRecDepth 100000 in
theorem reads_bad (s : ByteArray) (w : World) (h : s.size ≤ 1200) {l c : Nat} (hv : Pure.verdict s.data.toList = .bad l c) :
    Calls Try.prog 3 #[.string s] w fun e w' => e = .returned (.bool true) ∧ Below w.heap.size w w' := by
  have HP : Hid (∀ w, Calls Try.prog 4 #[.string s] w fun e w' => e = .returned (.tuple #[.pointer none, .int .i64 (l : Int), .int .i64 (c : Int), .int .i64 10]) ∧ Below w.heap.size w w') := by
    intro w
    refine (parse_any s w (by omega)).mono ?_
    rintro e w' ⟨h1, h2⟩
    rw [hv] at h2
    exact ⟨h2, h1⟩
  have HR : Hid (∀ w, Calls Try.prog 5 #[.string s] w fun e w' => e = .returned (.tuple #[.pointer none, .int .i64 (l : Int), .int .i64 (c : Int), .int .i64 10]) ∧ Below w.heap.size w w') := by
    intro w
    refine (ref_all s w (by omega)).mono ?_
    rintro e w' ⟨h1, h2⟩
    rw [hv] at h2
    exact ⟨h2, h1⟩
  clear hv
  go_enter Try.func3, Try.ntmps3
  go_wp2_with (first
    | (go_at_call 4; (with_reducible refine (HP.out _).mono ?_); rintro e w1 ⟨rfl, hb1⟩)
    | (go_at_call 5; (with_reducible refine (HR.out _).mono ?_); rintro e w2 ⟨rfl, hb2⟩))
  go_ret
  exact ⟨rfl, hb1.trans (hb2.mono hb1.size)⟩

set_option maxHeartbeats 1000000 in
set_option maxRecDepth 100000 in
theorem reads_good (s : ByteArray) (w : World) (h : s.size ≤ 1200) {L : List (List UInt8)} (hv : Pure.verdict s.data.toList = .good L) :
    Calls Try.prog 3 #[.string s] w fun e w' => e = .returned (.bool true) ∧ Below w.heap.size w w' := by
  have hgt := Pure.good_of hv
  have HP : Hid (∀ w, Calls Try.prog 4 #[.string s] w fun e w' => ∃ b g cap, e = .returned (.tuple #[.pointer (some ⟨b, 0, none⟩), .int .i64 0, .int .i64 0, .int .i64 0]) ∧ MapAt w' b g cap L ∧ Below w.heap.size w w') := by
    intro w
    refine (parse_any s w (by omega)).mono ?_
    rintro e w' ⟨h1, h2⟩
    rw [hv] at h2
    obtain ⟨g, cap, h3, h4⟩ := h2
    exact ⟨_, g, cap, h3, h4, h1⟩
  have HR : Hid (∀ w, Calls Try.prog 5 #[.string s] w fun e w' => ∃ b g cap Q, e = .returned (.tuple #[.pointer (some ⟨b, 0, none⟩), .int .i64 0, .int .i64 0, .int .i64 0]) ∧ lsts Q = L ∧ RefAt w' b g cap Q ∧ Below w.heap.size w w') := by
    intro w
    refine (ref_all s w (by omega)).mono ?_
    rintro e w' ⟨h1, h2⟩
    rw [hv] at h2
    obtain ⟨g, cap, Q, hq, h3, h4⟩ := h2
    exact ⟨_, g, cap, Q, h3, hq, h4, h1⟩
  clear hv
  go_enter Try.func3, Try.ntmps3
  go_wp2_with (first
    | (go_at_call 4; (with_reducible refine (HP.out _).mono ?_); rintro e w1 ⟨bm, gm, cm, rfl, hm1, hb1⟩)
    | (go_at_call 5; (with_reducible refine (HR.out _).mono ?_); rintro e w2 ⟨br, gr, cr, Q, rfl, hQ, hr2, hb2⟩))
  subst hQ
  obtain ⟨hG, htx⟩ := hgt
  have hl : (lsts Q).length = Q.length := by simp [lsts]
  have hm2 := hm1.below hb2 (Nat.le_refl _)
  have hst : (⟨(Pure.text (lsts Q)).toArray⟩ : ByteArray) = s := by rw [htx]
  have c0 := hr2.cell
  have keep : ∀ W w' : World, (Below w2.heap.size w2 W ∧ W.cell? ⟨br, 0, none⟩ = some (.slice (some ⟨gr, 0, none⟩) Q.length cr)) → Below W.heap.size W w' → (Below w2.heap.size w2 w' ∧ w'.cell? ⟨br, 0, none⟩ = some (.slice (some ⟨gr, 0, none⟩) Q.length cr)) := by
    intro W w' h hb
    refine ⟨h.1.trans (hb.mono h.1.size), ?_⟩
    rw [hb.cell (p := ⟨br, 0, none⟩) (Nat.lt_of_lt_of_le (blk_lt hr2.blk) h.1.size)]
    exact h.2
  have HRows : Hid (∀ W : World, (Below w2.heap.size w2 W ∧ W.cell? ⟨br, 0, none⟩ = some (.slice (some ⟨gr, 0, none⟩) Q.length cr)) → Calls Try.prog 6 #[.pointer (some ⟨bm, 0, none⟩)] W fun e w' => e = .returned (.int .i64 (Q.length : Int)) ∧ (Below w2.heap.size w2 w' ∧ w'.cell? ⟨br, 0, none⟩ = some (.slice (some ⟨gr, 0, none⟩) Q.length cr))) := by
    intro W hW
    have hmW := hm2.below hW.1 (Nat.le_refl _)
    have hrW := hr2.below hW.1 (Nat.le_refl _)
    exact (rows_any bm _ W (by rw [blk_cell hmW.blk, ← hl]; rfl)).mono fun e w' ⟨h1, h2⟩ => ⟨h1, h2 ▸ hW⟩
  have HCols : Hid (∀ W : World, (Below w2.heap.size w2 W ∧ W.cell? ⟨br, 0, none⟩ = some (.slice (some ⟨gr, 0, none⟩) Q.length cr)) → Calls Try.prog 7 #[.pointer (some ⟨bm, 0, none⟩)] W fun e w' => e = .returned (.int .i64 (Pure.wid (lsts Q) : Int)) ∧ (Below w2.heap.size w2 w' ∧ w'.cell? ⟨br, 0, none⟩ = some (.slice (some ⟨gr, 0, none⟩) Q.length cr))) := by
    intro W hW
    have hmW := hm2.below hW.1 (Nat.le_refl _)
    have hrW := hr2.below hW.1 (Nat.le_refl _)
    exact (cols_any bm _ W (by rw [blk_cell hmW.blk]; rfl)).mono fun e w' ⟨h1, h2⟩ => ⟨h1, h2 ▸ hW⟩
  have HCells : Hid (∀ W : World, (Below w2.heap.size w2 W ∧ W.cell? ⟨br, 0, none⟩ = some (.slice (some ⟨gr, 0, none⟩) Q.length cr)) → Calls Try.prog 9 #[.pointer (some ⟨bm, 0, none⟩)] W fun e w' => e = .returned (.int .i64 ((lsts Q).flatten.length : Int)) ∧ (Below w2.heap.size w2 w' ∧ w'.cell? ⟨br, 0, none⟩ = some (.slice (some ⟨gr, 0, none⟩) Q.length cr))) := by
    intro W hW
    have hmW := hm2.below hW.1 (Nat.le_refl _)
    have hrW := hr2.below hW.1 (Nat.le_refl _)
    exact (cells_any bm _ _ _ W (by rw [blk_cell hmW.blk]; rfl)).mono fun e w' ⟨h1, h2⟩ => ⟨h1, h2 ▸ hW⟩
  have HRCols : Hid (∀ W : World, (Below w2.heap.size w2 W ∧ W.cell? ⟨br, 0, none⟩ = some (.slice (some ⟨gr, 0, none⟩) Q.length cr)) → Calls Try.prog 8 #[.pointer (some ⟨br, 0, none⟩)] W fun e w' => e = .returned (.int .i64 (Pure.wid (lsts Q) : Int)) ∧ (Below w2.heap.size w2 w' ∧ w'.cell? ⟨br, 0, none⟩ = some (.slice (some ⟨gr, 0, none⟩) Q.length cr))) := by
    intro W hW
    have hmW := hm2.below hW.1 (Nat.le_refl _)
    have hrW := hr2.below hW.1 (Nat.le_refl _)
    exact (rcols_any hrW hG).mono fun e w' ⟨h1, h2⟩ => ⟨h1, h2.symm ▸ hW⟩
  have HRCells : Hid (∀ W : World, (Below w2.heap.size w2 W ∧ W.cell? ⟨br, 0, none⟩ = some (.slice (some ⟨gr, 0, none⟩) Q.length cr)) → Calls Try.prog 10 #[.pointer (some ⟨br, 0, none⟩)] W fun e w' => e = .returned (.int .i64 ((lsts Q).flatten.length : Int)) ∧ (Below w2.heap.size w2 w' ∧ w'.cell? ⟨br, 0, none⟩ = some (.slice (some ⟨gr, 0, none⟩) Q.length cr))) := by
    intro W hW
    have hmW := hm2.below hW.1 (Nat.le_refl _)
    have hrW := hr2.below hW.1 (Nat.le_refl _)
    exact (rcells_any hrW hG).mono fun e w' ⟨h1, n, h2⟩ => ⟨h1, keep _ _ hW (by rw [h2]; exact below_drewN (Below.refl _ _) n)⟩
  have HText : Hid (∀ W : World, (Below w2.heap.size w2 W ∧ W.cell? ⟨br, 0, none⟩ = some (.slice (some ⟨gr, 0, none⟩) Q.length cr)) → Calls Try.prog 11 #[.pointer (some ⟨bm, 0, none⟩)] W fun e w' => e = .returned (.string s) ∧ (Below w2.heap.size w2 w' ∧ w'.cell? ⟨br, 0, none⟩ = some (.slice (some ⟨gr, 0, none⟩) Q.length cr))) := by
    intro W hW
    have hmW := hm2.below hW.1 (Nat.le_refl _)
    have hrW := hr2.below hW.1 (Nat.le_refl _)
    rw [← hst]
    exact (text_any hmW hG).mono fun e w' ⟨h1, h2⟩ => ⟨h1, keep _ _ hW h2⟩
  have HG : Hid (Pure.Good (lsts Q)) := hG
  have HM : Hid (MapAt w2 bm gm cm (lsts Q)) := hm2
  have HF : Hid (RefAt w2 br gr cr Q) := hr2
  have HB : Hid (Below w.heap.size w w2) := hb1.trans (hb2.mono hb1.size)
  clear keep HP HR hG htx hl hm2 hm1 hst hr2 hb1 hb2
  generalize (lsts Q).flatten.length = N at HCells HRCells
  generalize Pure.wid (lsts Q) = Wd at HCols HRCols
  go_cut [89] from 54 (fun t wx => t = .bool false ∧ Below w2.heap.size w2 wx)
  case first =>
    go_region_held3 (fun W => Below w2.heap.size w2 W ∧ W.cell? ⟨br, 0, none⟩ = some (.slice (some ⟨gr, 0, none⟩) Q.length cr)) (first | assumption | exact ⟨(Below.refl _ _).drew, c0⟩) (first
      | (go_at_call 6; refine (HRows.out _ ?_).mono ?_; assumption; rintro e w' ⟨rfl, hS'⟩)
      | (go_at_call 7; refine (HCols.out _ ?_).mono ?_; assumption; rintro e w' ⟨rfl, hS'⟩)
      | (go_at_call 9; refine (HCells.out _ ?_).mono ?_; assumption; rintro e w' ⟨rfl, hS'⟩)
      | (go_at_call 8; refine (HRCols.out _ ?_).mono ?_; assumption; rintro e w' ⟨rfl, hS'⟩)
      | (go_at_call 10; refine (HRCells.out _ ?_).mono ?_; assumption; rintro e w' ⟨rfl, hS'⟩)
      | (go_at_call 11; refine (HText.out _ ?_).mono ?_; assumption; rintro e w' ⟨rfl, hS'⟩))
    all_goals (go_wp2_with fail; go_meet; refine ⟨rfl, ?_⟩; apply And.left; assumption)
  case rest =>
    obtain ⟨rfl, hbc⟩ := hcut
    have HMC : Hid (MapAt wc bm gm cm (lsts Q)) := HM.out.below hbc (Nat.le_refl _)
    have HFC : Hid (RefAt wc br gr cr Q) := HF.out.below hbc (Nat.le_refl _)
    have HBC : Hid (Below w.heap.size w wc) := HB.out.trans (hbc.mono HB.out.size)
    have HSM : Hid ((lsts Q).flatten.length ≤ 100000) := Nat.le_trans HG.out.small (by decide)
    clear hbc HM HF HB HRows HCols HCells HRCols HRCells HText c0
    go_wp2_with (go_at_call 12; (with_reducible refine (all_map HMC.out HSM.out).mono ?_); rintro e w3 ⟨aa, ca, rfl, hown3, hb3⟩)
    have HM3 : Hid (∀ m, MapAt (w3.drewN m) bm gm cm (lsts Q)) := fun m => (HMC.out.below hb3 (Nat.le_refl _)).drewN m
    have HF3 : Hid (∀ m, RefAt (w3.drewN m) br gr cr Q) := fun m => (HFC.out.below hb3 (Nat.le_refl _)).drewN m
    have HB3 : Hid (∀ m, Below w.heap.size w (w3.drewN m)) := fun m => below_drewN (HBC.out.trans (hb3.mono HBC.out.size)) m
    have HKind : Hid (∀ m i, Calls Try.prog 13 #[.pointer (some ⟨bm, 0, none⟩), .int .i64 i] (w3.drewN m) fun e w' => e = .returned (.int .u8 ((kindB (lsts Q).flatten i).toNat : Int)) ∧ w3.drewN m = w') :=
      fun m i => kind_any bm gm cm _ i _ (by rw [blk_cell (HM3.out m).blk]; rfl) (byte_cells (HM3.out m).own)
    have HFree : Hid (∀ m i, Calls Try.prog 15 #[.pointer (some ⟨bm, 0, none⟩), .int .i64 i] (w3.drewN m) fun e w' => e = .returned (.bool (freeB (lsts Q).flatten i)) ∧ w3.drewN m = w') :=
      fun m i => free_any bm gm cm _ i _ (by rw [blk_cell (HM3.out m).blk]; rfl) (byte_cells (HM3.out m).own)
    have HRKind : Hid (∀ m i, Calls Try.prog 14 #[.pointer (some ⟨br, 0, none⟩), .int .i64 i] (w3.drewN m) fun e w' => e = .returned (.int .u8 ((kindB (lsts Q).flatten i).toNat : Int)) ∧ ∃ n, w' = w3.drewN n) :=
      fun m i => (rkind_any i (HF3.out m) HG.out).mono fun e w' ⟨h1, n, h2⟩ => ⟨h1, m + n, by rw [h2, World.drewN_drewN]⟩
    have HRFree : Hid (∀ m i, Calls Try.prog 16 #[.pointer (some ⟨br, 0, none⟩), .int .i64 i] (w3.drewN m) fun e w' => e = .returned (.bool (freeB (lsts Q).flatten i)) ∧ ∃ n, w' = w3.drewN n) :=
      fun m i => (rfree_any i (HF3.out m) HG.out).mono fun e w' ⟨h1, n, h2⟩ => ⟨h1, m + n, by rw [h2, World.drewN_drewN]⟩
    have HRCells : Hid (∀ m, Calls Try.prog 10 #[.pointer (some ⟨br, 0, none⟩)] (w3.drewN m) fun e w' => e = .returned (.int .i64 ((lsts Q).flatten.length : Int)) ∧ ∃ n, w' = w3.drewN n) :=
      fun m => (rcells_any (HF3.out m) HG.out).mono fun e w' ⟨h1, n, h2⟩ => ⟨h1, m + n, by rw [h2, World.drewN_drewN]⟩
    have HOWN : Hid (w3.ownsRow wc.heap.size 3 1 (.slice aa (frees (lsts Q).flatten).length ca) (frees (lsts Q).flatten).length ((frees (lsts Q).flatten).map natV)) := hown3
    have hsm : (lsts Q).flatten.length ≤ 100000 := HSM.out
    clear hown3 hb3 HMC HFC HBC HSM HM3 HF3 HG
    generalize (lsts Q).flatten = ms at HKind HFree HRKind HRFree HRCells HOWN hsm ⊢
    obtain ⟨N, hN⟩ : ∃ N, N = ms.length := ⟨_, rfl⟩
    rw [← hN] at hsm HRCells
    have HNN : Hid (N = ms.length) := hN
    clear hN
    have hnf : (frees ms).length ≤ N := by rw [HNN.out]; exact freeK_le ms _
    obtain ⟨nf, hnfe⟩ : ∃ nf, nf = (frees ms).length := ⟨_, rfl⟩
    rw [← hnfe] at hnf HOWN ⊢
    have HNF : Hid (nf = (frees ms).length) := hnfe
    clear hnfe
    go_loopw [12, 13] (fun n i wr => LoopRel ms w3 N n i wr) (fun _ i _ => (N + 2) - (intOf i + 1).toNat)
    case atStart => exact ⟨0, -1, by omega, by omega, rfl, rfl, rfl⟩
    case round =>
      obtain ⟨m, i, hi1, hi2, rfl, rfl, rfl⟩ := hrel
      by_cases hiN : i ≤ (N : Int)
      · cases hf : freeB ms i with
        | true =>
          obtain ⟨hr1, hr2, hr3, hr4, hr5⟩ := round_hit hf
          have HX : Hid (∀ m, LoopRel ms w3 N (.int .i64 ((cnt ms (i + 1).toNat : Int) + 1)) (.int .i64 (i + 1)) (w3.drewN m)) :=
            fun m => ⟨m, i + 1, by omega, by omega, rfl, by rw [hr5]; go_num, rfl⟩
          have hr3' : cnt ms (i + 1).toNat < nf := by rw [HNF.out]; exact hr3
          obtain ⟨ga, ca', hv⟩ := slice_of HOWN.out (by omega)
          obtain ⟨rfl, rfl⟩ : aa = some ⟨ga, 0, none⟩ ∧ ca = ca' := by simpa using hv
          have hcell : ∀ m, (w3.drewN m).cell? ⟨ga, cnt ms (i + 1).toNat, none⟩ = some (.int .i64 i) := by
            intro m
            have h1 := HOWN.out.cells (g := ga) rfl (cnt ms (i + 1).toNat) (.int .i64 i) (by
              rw [List.getElem?_map, hr4]; simp [natV]; omega)
            have e : (⟨ga, 0, none⟩ : Addr).add (cnt ms (i + 1).toNat) = ⟨ga, cnt ms (i + 1).toNat, none⟩ := by unfold Addr.add; split <;> simp_all
            rw [e] at h1
            exact h1
          have hcell0 := hcell 0
          have HK : Hid (∀ m, Calls Try.prog 13 #[.pointer (some ⟨bm, 0, none⟩), .int .i64 i] (w3.drewN m) fun e w' => e = .returned (.int .u8 ((kindB ms i).toNat : Int)) ∧ w3.drewN m = w') := fun m => HKind.out m i
          have HRK : Hid (∀ m, Calls Try.prog 14 #[.pointer (some ⟨br, 0, none⟩), .int .i64 i] (w3.drewN m) fun e w' => e = .returned (.int .u8 ((kindB ms i).toNat : Int)) ∧ ∃ n, w' = w3.drewN n) := fun m => HRKind.out m i
          have HFr : Hid (∀ m, Calls Try.prog 15 #[.pointer (some ⟨bm, 0, none⟩), .int .i64 i] (w3.drewN m) fun e w' => e = .returned (.bool true) ∧ w3.drewN m = w') := fun m => hf ▸ HFree.out m i
          have HRF : Hid (∀ m, Calls Try.prog 16 #[.pointer (some ⟨br, 0, none⟩), .int .i64 i] (w3.drewN m) fun e w' => e = .returned (.bool true) ∧ ∃ n, w' = w3.drewN n) := fun m => hf ▸ HRFree.out m i
          have hc0 : w3.cell? ⟨ga, cnt ms (i + 1).toNat, none⟩ = some (.int .i64 i) := hcell0
          clear hf hr4 hr5 hv hcell hcell0 HKind HRKind HFree HRFree HOWN HNF HNN hr3 hr1 hr2
          have hnlt : ((cnt ms (i + 1).toNat : Nat) : Int) < (nf : Int) := by omega
          generalize kindB ms i = kc at HK HRK
          generalize cnt ms (i + 1).toNat = n at HX hr3' hc0 hnlt ⊢
          go_wp2_with (first
            | (go_at_call 10; (with_reducible refine (HRCells.out _).mono ?_); rintro e w' ⟨rfl, n1, rfl⟩)
            | (go_at_call 13; (with_reducible refine (HK.out _).mono ?_); rintro e w' ⟨rfl, rfl⟩)
            | (go_at_call 14; (with_reducible refine (HRK.out _).mono ?_); rintro e w' ⟨rfl, n2, rfl⟩)
            | (go_at_call 15; (with_reducible refine (HFr.out _).mono ?_); rintro e w' ⟨rfl, rfl⟩)
            | (go_at_call 16; (with_reducible refine (HRF.out _).mono ?_); rintro e w' ⟨rfl, n3, rfl⟩))
          go_roundw
          case rel => exact HX.out _
          case measure => simp [intOf]; omega
        | false =>
          have hr5 := round_miss hi1 hf
          have HX : Hid (∀ m, LoopRel ms w3 N (.int .i64 (cnt ms (i + 1).toNat : Int)) (.int .i64 (i + 1)) (w3.drewN m)) :=
            fun m => ⟨m, i + 1, by omega, by omega, rfl, by rw [hr5], rfl⟩
          have HK : Hid (∀ m, Calls Try.prog 13 #[.pointer (some ⟨bm, 0, none⟩), .int .i64 i] (w3.drewN m) fun e w' => e = .returned (.int .u8 ((kindB ms i).toNat : Int)) ∧ w3.drewN m = w') := fun m => HKind.out m i
          have HRK : Hid (∀ m, Calls Try.prog 14 #[.pointer (some ⟨br, 0, none⟩), .int .i64 i] (w3.drewN m) fun e w' => e = .returned (.int .u8 ((kindB ms i).toNat : Int)) ∧ ∃ n, w' = w3.drewN n) := fun m => HRKind.out m i
          have HFr : Hid (∀ m, Calls Try.prog 15 #[.pointer (some ⟨bm, 0, none⟩), .int .i64 i] (w3.drewN m) fun e w' => e = .returned (.bool false) ∧ w3.drewN m = w') := fun m => hf ▸ HFree.out m i
          have HRF : Hid (∀ m, Calls Try.prog 16 #[.pointer (some ⟨br, 0, none⟩), .int .i64 i] (w3.drewN m) fun e w' => e = .returned (.bool false) ∧ ∃ n, w' = w3.drewN n) := fun m => hf ▸ HRFree.out m i
          clear hf hr5 HKind HRKind HFree HRFree HOWN HNF HNN
          generalize kindB ms i = kc at HK HRK
          generalize cnt ms (i + 1).toNat = n at HX ⊢
          go_wp2_with (first
            | (go_at_call 10; (with_reducible refine (HRCells.out _).mono ?_); rintro e w' ⟨rfl, n1, rfl⟩)
            | (go_at_call 13; (with_reducible refine (HK.out _).mono ?_); rintro e w' ⟨rfl, rfl⟩)
            | (go_at_call 14; (with_reducible refine (HRK.out _).mono ?_); rintro e w' ⟨rfl, n2, rfl⟩)
            | (go_at_call 15; (with_reducible refine (HFr.out _).mono ?_); rintro e w' ⟨rfl, rfl⟩)
            | (go_at_call 16; (with_reducible refine (HRF.out _).mono ?_); rintro e w' ⟨rfl, n3, rfl⟩))
          go_roundw
          case rel => exact HX.out _
          case measure => simp [intOf]; omega
      · obtain rfl : i = (N : Int) + 1 := by omega
        have hce : cnt ms ((N : Int) + 1 + 1).toNat = nf := by
          have e : ((N : Int) + 1 + 1).toNat = ms.length + 2 := by have := HNN.out; omega
          rw [e, cnt_end, HNF.out]
        rw [hce]
        clear hce HKind HRKind HFree HRFree HOWN HNF HNN
        go_wp2_with (go_at_call 10; (with_reducible refine (HRCells.out _).mono ?_); rintro e w' ⟨rfl, n1, rfl⟩)
        go_ret
        exact ⟨by simp, HB3.out _⟩
end Go.Proofs.Ytjbdaeblaalboaa
