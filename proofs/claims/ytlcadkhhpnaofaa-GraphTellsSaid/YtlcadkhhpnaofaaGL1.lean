/-
  The laws' helpers: same, some.
-/
import Derived.Test.YtlcadkhhpnaofaaGW13
import Derived.Test.YtlcadkhhpnaofaaGW15
import Derived.Deep.QuietTactic
import Derived.BigQuiet
namespace Go.Proofs.Ytlcadkhhpnaofaa
set_option maxRecDepth 100000
open Go Go.RowKit Gq

theorem take_snoc_int {l : List Int} {k : Nat} (h : k < l.length) : l.take (k + 1) = l.take k ++ [l.getD k 0] := by
  rw [List.take_succ_eq_append_getElem h]; simp [List.getD, h]

set_option maxHeartbeats 1000000 in
theorem same_any {w : World} {va vb : Value} {la lb : List Int} (ha : IsL w va la) (hb : IsL w vb lb) (h1 : la.length ≤ 100000) :
    Calls Try.prog 15 #[va, vb] w fun e w' => e = .returned (.bool (decide (la = lb))) ∧ Still w w' := by
  obtain ⟨A, ca, rfl, _, hca⟩ := ha
  obtain ⟨B, cb, rfl, _, hcb⟩ := hb
  by_cases hl : la.length = lb.length
  · have HA : Hid (∀ wr, Still w wr → ∀ j, j < la.length → ∃ g, A = some ⟨g, 0, none⟩ ∧ wr.cell? ⟨g, j, none⟩ = some (.int .i64 (la.getD j 0))) := by
      intro wr hk j hj
      obtain ⟨g, e, hc⟩ := hca j hj
      exact ⟨g, e, hk.cell hc id⟩
    have HB : Hid (∀ wr, Still w wr → ∀ j, j < la.length → ∃ g, B = some ⟨g, 0, none⟩ ∧ wr.cell? ⟨g, j, none⟩ = some (.int .i64 (lb.getD j 0))) := by
      intro wr hk j hj
      obtain ⟨g, e, hc⟩ := hcb j (by omega)
      exact ⟨g, e, hk.cell hc id⟩
    rw [← hl]
    have HL := Lib.hid hl
    clear hca hcb hl
    obtain ⟨n, hn⟩ : ∃ n, n = la.length := ⟨_, rfl⟩
    rw [← hn] at HA HB h1 ⊢
    have HN := Lib.hid hn
    clear hn
    go_enter Try.func15, Try.ntmps15
    go_wp2
    go_loopw [13] (fun u wr => ∃ k : Nat, k ≤ n ∧ u = .int .i64 (k : Int) ∧ la.take k = lb.take k ∧ Still w wr) (fun u _ => n - (intOf u).toNat)
    case atStart => exact ⟨0, Nat.zero_le _, rfl, by simp, Kept.refl _ _⟩
    case round =>
      obtain ⟨k, hk, rfl, he, hw⟩ := hrel
      have HE := Lib.hid he
      clear he
      by_cases hlt : k < n
      · obtain ⟨ga, rfl, fa⟩ := HA.out wr hw k hlt
        obtain ⟨gb, rfl, fb⟩ := HB.out wr hw k hlt
        have HW := Lib.hid hw
        have hla : k < la.length := by rw [← HN.out]; exact hlt
        have hlb : k < lb.length := by rw [← HL.out]; exact hla
        have HS : Hid (la.getD k 0 = lb.getD k 0 → la.take (k + 1) = lb.take (k + 1)) := by
          intro h
          rw [take_snoc_int hla, take_snoc_int hlb, HE.out, h]
        have HD : Hid (la.getD k 0 ≠ lb.getD k 0 → la ≠ lb) := by
          rintro h rfl
          exact h rfl
        clear hw hla hlb
        generalize la.getD k 0 = x at *
        generalize lb.getD k 0 = y at *
        have k0 : (0 : Int) ≤ (k : Int) := by omega
        have k1 : (k : Int) < (n : Int) := by omega
        by_cases hxy : x = y
        · have HT := Lib.hid (HS.out hxy)
          clear HS HD
          subst hxy
          go_wp2
          go_quiet (fail)
          go_wp2
          go_roundw
          case rel => exact ⟨k + 1, by omega, by go_num, HT.out, HW.out.drewN nq⟩
          case measure => simp [intOf]; omega
        · have HF := Lib.hid (HD.out hxy)
          have hb1 : (x == y) = false := by simpa using hxy
          have hb2 : (x != y) = true := by simpa using hxy
          clear HS HD
          go_wp2
          go_quiet (fail)
          go_wp2
          go_ret
          refine ⟨?_, HW.out.drewN nq⟩
          rw [decide_eq_false HF.out]
          rfl
      · obtain rfl : k = n := by omega
        have HQ : Hid (la = lb) := by
          have h1 := HE.out
          rw [List.take_of_length_le (by rw [← HN.out]; exact Nat.le_refl _), List.take_of_length_le (by rw [← HL.out, ← HN.out]; exact Nat.le_refl _)] at h1
          exact h1
        have HW := Lib.hid hw
        clear hw
        go_wp2
        go_ret
        exact ⟨by rw [decide_eq_true HQ.out]; rfl, HW.out⟩
  · have HF : Hid (la ≠ lb) := fun e => hl (by rw [e])
    generalize la.length = m at *
    generalize lb.length = n at *
    go_enter Try.func15, Try.ntmps15
    go_wp2
    go_ret
    exact ⟨by rw [decide_eq_false HF.out]; rfl, Kept.refl _ _⟩

def E5 : List (Nat × Nat) := [(0, 1), (1, 2), (2, 0), (2, 3), (3, 4)]
def someK (k : Nat) : Gr := (E5.take k).foldl (fun R e => addE R e.1 e.2) (none_ 6)
theorem someK_ok : ∀ k, k ≤ 5 → Ok (someK k) ∧ (someK k).length = 6
  | 0, _ => ⟨none_ok (by omega), by simp [someK, none_]⟩
  | k + 1, h => by
    obtain ⟨h1, h2⟩ := someK_ok k (by omega)
    have hk : k < E5.length := by simp [E5]; omega
    have e : someK (k + 1) = addE (someK k) E5[k].1 E5[k].2 := by
      unfold someK
      rw [List.take_succ_eq_append_getElem hk, List.foldl_append]; rfl
    have hall : ∀ x ∈ E5, x.1 < 6 ∧ x.2 < 6 ∧ x.1 ≠ x.2 := by decide
    have hx := hall E5[k] (by simp)
    rw [e]
    exact ⟨addE_ok h1 (by rw [h2]; exact hx.1) (by rw [h2]; exact hx.2.1) hx.2.2, by rw [addE_length, h2]⟩
theorem someK_succ {k : Nat} (h : k < 5) : someK (k + 1) = addE (someK k) (E5.getD k (0, 0)).1 (E5.getD k (0, 0)).2 ∧ (E5.getD k (0, 0)).1 < 6 ∧ (E5.getD k (0, 0)).2 < 6 ∧ (E5.getD k (0, 0)).1 ≠ (E5.getD k (0, 0)).2 := by
  have hk : k < E5.length := by simp [E5]; omega
  have e : E5.getD k (0, 0) = E5[k] := by simp [List.getD, hk]
  rw [e]
  have hall : ∀ x ∈ E5, x.1 < 6 ∧ x.2 < 6 ∧ x.1 ≠ x.2 := by decide
  refine ⟨?_, hall _ (by simp)⟩
  unfold someK
  rw [List.take_succ_eq_append_getElem hk, List.foldl_append]; rfl
theorem someK_all : someK 5 = someG := by decide
theorem someG_ok : Ok someG := by rw [← someK_all]; exact (someK_ok 5 (by omega)).1
/-- The literal's cells. -/
def lit5 : Array Value := #[.int .i64 0, .int .i64 1, .int .i64 1, .int .i64 2, .int .i64 2, .int .i64 0, .int .i64 2, .int .i64 3, .int .i64 3, .int .i64 4]
theorem lit5_get {k : Nat} (h : k < 5) : lit5[k * 2]? = some (.int .i64 (((E5.getD k (0, 0)).1 : Nat) : Int)) ∧ lit5[k * 2 + 1]? = some (.int .i64 (((E5.getD k (0, 0)).2 : Nat) : Int)) := by
  rcases (by omega : k = 0 ∨ k = 1 ∨ k = 2 ∨ k = 3 ∨ k = 4) with rfl | rfl | rfl | rfl | rfl <;> exact ⟨rfl, rfl⟩

/-- Behind an Add, from a call's own beginning on. -/
theorem GraphPost.add {w wr w' : World} {b : Nat} {R' : Gr} {S : Nat → Prop} (hS : ∀ k, S k → w.heap.size ≤ k) (hb : Below w.heap.size w wr) {e : Ending} (h : AddPost wr b R' S e w') : GraphPost w R' b w' := by
  obtain ⟨_, S', h1, h2, h3⟩ := h
  refine ⟨S', h1, fun k hk => ?_, hb.trans (h3.below hS hb.size)⟩
  rcases h2 k hk with h4 | h4
  · exact hS k h4
  · exact Nat.le_trans hb.size h4

set_option maxHeartbeats 1000000 in
theorem some_any (w : World) : Calls Try.prog 38 #[] w fun e w' => ∃ b, e = .returned (.pointer (some ⟨b, 0, none⟩)) ∧ GraphPost w someG b w' := by
  go_enter Try.func38, Try.ntmps38
  go_wp2_with fail
  refine (new_any w (n := 6) (by omega)).mono ?_
  rintro e w1 ⟨b, rfl, hg⟩
  have HG := Lib.hid hg
  clear hg
  have HR : Hid (∀ o, ∃ S, GAt (w1.alloc o) b (someK 0) S ∧ (∀ i, S i → w.heap.size ≤ i ∧ i ≠ w1.heap.size) ∧ Below w.heap.size w (w1.alloc o)) := by
    intro o
    obtain ⟨S, h1, h2, h3⟩ := HG.out
    exact ⟨S, h1.alloc o, fun i hi => ⟨h2 i hi, by have := h1.lt i hi; omega⟩, h3.trans (((Below.refl _ w1).alloc (Nat.le_refl _) o).mono h3.size)⟩
  go_wp2
  go_loopw [16] (fun u wr => ∃ k : Nat, k ≤ 5 ∧ u = .int .i64 (k : Int) ∧ (∃ S, GAt wr b (someK k) S ∧ (∀ i, S i → w.heap.size ≤ i ∧ i ≠ w1.heap.size) ∧ Below w.heap.size w wr) ∧ wr.heap[w1.heap.size]? = some (.cells lit5 31 (0, 0))) (fun u _ => 5 - (intOf u).toNat)
  case atStart => exact ⟨0, by omega, rfl, HR.out _, heap_alloc_new w1 _⟩
  case round =>
    obtain ⟨k, hk, rfl, ⟨S, hg, hS, hb⟩, hl⟩ := hrel
    clear HR
    by_cases hlt : k < 5
    · obtain ⟨hsu, hx1, hx2, hx3⟩ := someK_succ hlt
      obtain ⟨hok, hlen⟩ := someK_ok k hk
      have f0 := blk_cell hl (k * 2)
      have f1 := blk_cell hl (k * 2 + 1)
      rw [(lit5_get hlt).1] at f0
      rw [(lit5_get hlt).2] at f1
      have HC : Hid (∀ o, Calls Try.prog 8 #[.pointer (some ⟨b, 0, none⟩), .int .i64 (((E5.getD k (0, 0)).1 : Nat) : Int), .int .i64 (((E5.getD k (0, 0)).2 : Nat) : Int)] (wr.alloc o) fun e w' => e = .returned (.int .i64 0) ∧
          (∃ S, GAt w' b (someK (k + 1)) S ∧ (∀ i, S i → w.heap.size ≤ i ∧ i ≠ w1.heap.size) ∧ Below w.heap.size w w') ∧ w'.heap[w1.heap.size]? = some (.cells lit5 31 (0, 0))) := by
        intro o
        refine (add_any (hg.alloc o) hok (by rw [hlen]; exact hx1) (by rw [hlen]; exact hx2) hx3).mono ?_
        rintro e w' ⟨rfl, S', h1, h2, h3⟩
        rw [← hsu] at h1
        have hbl := blk_lt hl
        refine ⟨rfl, ⟨S', h1, fun i hi => ?_, ?_⟩, ?_⟩
        · rcases h2 i hi with h4 | h4
          · exact hS i h4
          · have := hb.size
            simp at h4
            omega
        · exact (hb.alloc hb.size o).trans (h3.below (fun i hi => (hS i hi).1) (by have := hb.size; simp; omega))
        · rw [h3.block _ (by simp; omega) (fun e => (hS _ e).2 rfl), Below.heap_alloc _ _ _ hbl]
          exact hl
      clear hsu hx1 hx2 hx3 hok hlen hg hS hl hb
      generalize (E5.getD k (0, 0)).1 = x1 at *
      generalize (E5.getD k (0, 0)).2 = x2 at *
      go_wp2_with fail
      refine (HC.out _).mono ?_
      rintro e w' ⟨rfl, q1, q2⟩
      have Q1 := Lib.hid q1
      have Q2 := Lib.hid q2
      clear q1 q2 HC
      go_wp2
      go_roundw
      case rel => exact ⟨k + 1, by omega, by go_num, Q1.out, Q2.out⟩
      case measure => simp [intOf]; omega
    · obtain rfl : k = 5 := by omega
      have HQ : Hid (GraphPost w someG b wr) := by
        rw [someK_all] at hg
        exact ⟨S, hg, fun i hi => (hS i hi).1, hb⟩
      clear hg hS hb hl
      go_wp2
      go_ret
      exact ⟨b, rfl, HQ.out⟩
end Go.Proofs.Ytlcadkhhpnaofaa
