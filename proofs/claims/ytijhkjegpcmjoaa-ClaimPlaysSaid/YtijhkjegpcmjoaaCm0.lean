/-
  The document's claims: a row of cells.
-/
import Derived.Test.YtijhkjegpcmjoaaClb1
namespace Go.Proofs.Ytijhkjegpcmjoaa
set_option maxRecDepth 100000
set_option linter.unusedSimpArgs false
open Go Go.RowKit Cl

namespace Cl
/-- Claims in any number. -/
structure Okr (l : List Cm) : Prop where
  ris : Ris l
  cel : ∀ x ∈ l, 0 ≤ x.c ∧ x.c < 1024
  gen : ∀ x ∈ l, 0 ≤ x.g ∧ x.g < 4294967296
theorem Ok.okr {l : List Cm} (h : Ok l) : Okr l := ⟨h.ris, h.cel, h.gen⟩
def low (s : List Cm) (n : Int) : List Cm := s.filter (fun x => decide (x.c < n))
theorem low_zero {s : List Cm} (h : Okr s) : low s 0 = [] := by
  unfold low
  rw [List.filter_eq_nil_iff]
  intro x hx
  have := h.cel x hx
  simp; omega
theorem low_all {s : List Cm} (h : Okr s) : low s 1024 = s := by
  unfold low
  rw [List.filter_eq_self]
  intro x hx
  have := h.cel x hx
  simp; omega
theorem low_ris {s : List Cm} (h : Ris s) (n : Int) : Ris (low s n) := h.sublist List.filter_sublist
theorem mem_low {s : List Cm} {n : Int} {x : Cm} : x ∈ low s n ↔ x ∈ s ∧ x.c < n := by simp [low]
theorem low_not {s : List Cm} (h : Ris s) {n : Int} (hh : has s n = false) : low s (n + 1) = low s n := by
  apply List.filter_congr
  intro x hx
  have := not_has h hh x hx
  rw [decide_eq_decide]
  omega
theorem low_yes {s : List Cm} (h : Ris s) {n : Int} (hh : has s n = true) : low s (n + 1) = low s n ++ [⟨n, (at_ s n).g⟩] := by
  have hm := at_mem hh
  have hac := (has_lt hh).2
  have e : (⟨n, (at_ s n).g⟩ : Cm) = at_ s n := by
    generalize at_ s n = y at hac ⊢
    cases y
    simp only at hac ⊢
    rw [hac]
  rw [e]
  refine ris_ext (low_ris h _) (List.pairwise_append.2 ⟨low_ris h _, List.pairwise_singleton _ _, fun a ha b hb => ?_⟩) (fun x => ?_)
  · rw [List.mem_singleton] at hb
    subst hb
    rw [hac]
    exact (mem_low.1 ha).2
  · rw [mem_low, List.mem_append, mem_low, List.mem_singleton]
    constructor
    · rintro ⟨h1, h2⟩
      by_cases h3 : x.c < n
      · exact .inl ⟨h1, h3⟩
      · right
        have h4 : x.c = n := by omega
        have := (idx_mem h h1).2
        rw [h4] at this
        exact this.symm
    · rintro (⟨h1, h2⟩ | rfl)
      · exact ⟨h1, by omega⟩
      · exact ⟨hm, by rw [hac]; omega⟩
theorem low_len (s : List Cm) (n : Int) : (low s n).length ≤ s.length := List.length_filter_le _ _
end Cl
/-- The document's claims in memory. -/
def RfAt (w : World) (b : Nat) (s : List Cm) : Prop := ∃ cs : Array Value, w.heap[b]? = some (.cells cs 34 (0, 0)) ∧ cs.size = 2048 ∧ ∀ n : Nat, n < 1024 → cs[n]? = some (.bool (has s (n : Int))) ∧ ∃ g, cs[1024 + n]? = some (.int .u32 g) ∧ (has s (n : Int) = true → g = (at_ s (n : Int)).g)
theorem RfAt.blk {w w' : World} {b : Nat} {s : List Cm} (h : RfAt w b s) (hb : w'.heap[b]? = w.heap[b]?) : RfAt w' b s := by
  obtain ⟨cs, h1, h2⟩ := h
  exact ⟨cs, hb.trans h1, h2⟩
theorem RfAt.lt {w : World} {b : Nat} {s : List Cm} (h : RfAt w b s) : b < w.heap.size := by
  obtain ⟨cs, h1, _⟩ := h
  exact blk_lt h1
theorem RfAt.below {w w' : World} {b : Nat} {s : List Cm} (h : RfAt w b s) (hb : Below w.heap.size w w') : RfAt w' b s := h.blk (hb.block b h.lt)
theorem RfAt.is {w : World} {b : Nat} {s : List Cm} (h : RfAt w b s) {n : Nat} (hn : n < 1024) : w.cell? ⟨b, n, none⟩ = some (.bool (has s (n : Int))) ∧ w.frozen? ⟨b, n, none⟩ = false ∧ w.frozen? ⟨b, 1024 + n, none⟩ = false ∧ ∃ g, w.cell? ⟨b, 1024 + n, none⟩ = some (.int .u32 g) ∧ (has s (n : Int) = true → g = (at_ s (n : Int)).g) := by
  obtain ⟨cs, h1, _, h2⟩ := h
  obtain ⟨h3, g, h4, h5⟩ := h2 n hn
  exact ⟨by rw [blk_cell h1]; exact h3, blk_free h1 n, blk_free h1 (1024 + n), g, by rw [blk_cell h1]; exact h4, h5⟩
def f2048 : Array Value := (List.replicate 1024 (Value.bool false) ++ List.replicate 1024 (Value.int .u32 0)).toArray
theorem RfAt.fresh (w : World) : RfAt (w.alloc (.cells f2048 34)) w.heap.size [] := by
  refine ⟨f2048, World.alloc_heap_new w _, ?_, fun n hn => ⟨?_, 0, ?_, fun h => by cases h⟩⟩
  · unfold f2048
    rw [List.size_toArray, List.length_append, List.length_replicate, List.length_replicate]
  · unfold f2048
    rw [List.getElem?_toArray, List.getElem?_append_left (by rw [List.length_replicate]; exact hn), show has [] (n : Int) = false from rfl, List.getElem?_replicate, if_pos hn]
  · unfold f2048
    rw [List.getElem?_toArray, List.getElem?_append_right (by rw [List.length_replicate]; omega), List.length_replicate, List.getElem?_replicate, if_pos (by omega)]
set_option maxHeartbeats 4000000 in
/-- All of the document. -/
theorem rall_any {w : World} {b : Nat} {s : List Cm} (h : RfAt w b s) (hs : Okr s) (hl : s.length ≤ 2000) :
    Calls Try.prog 23 #[.pointer (some ⟨b, 0, none⟩)] w fun e w' => ∃ v, e = .returned v ∧ w'.ownsRow w.heap.size 26 2 v s.length (csM s) ∧ Below w.heap.size w w' := by
  obtain ⟨i0, hi, hz0, hz1, hz2⟩ := info_parts Try.infoCm3
  have HH := Lib.hid h
  obtain ⟨Q, hQ⟩ : ∃ Q : Ending → World → Prop, Q = fun e w' => ∃ v, e = .returned v ∧ w'.ownsRow w.heap.size 26 2 v s.length (csM s) ∧ Below w.heap.size w w' := ⟨_, rfl⟩
  have HQ : Hid (∀ v w', w'.ownsRow w.heap.size 26 2 v s.length (csM s) → Below w.heap.size w w' → Q (.returned v) w') := by rw [hQ]; exact fun v w' h1 h2 => ⟨v, rfl, h1, h2⟩
  rw [← hQ]
  clear h hQ
  have H0 : Hid (w.ownsRow w.heap.size 26 2 (.slice none 0 0) (low s 0).length (csM (low s 0))) := by
    rw [Hid, low_zero hs]; exact World.ownsRow_nil _ _ _ _
  have HB0 := Lib.hid (Below.refl w.heap.size w)
  go_enter Try.func23, Try.ntmps23
  go_wp2
  go_loopw [4, 3] (fun u v wr => ∃ n : Nat, n ≤ 1024 ∧ u = .int .i64 (n : Int) ∧ wr.ownsRow w.heap.size 26 2 v (low s n).length (csM (low s n)) ∧ Below w.heap.size w wr) (fun u _ _ => 1024 - (intOf u).toNat)
  case atStart => exact ⟨0, Nat.zero_le _, rfl, H0.out, HB0.out⟩
  case round =>
    rename World => V
    obtain ⟨n, hn, rfl, hr, hB⟩ := hrel
    by_cases hlt : n < 1024
    · have d0 : decide ((n : Int) < 1024) = true := decide_eq_true (by omega)
      have n0 : (0 : Int) ≤ (n : Int) := by omega
      have n1 : (n : Int) < 1024 := by omega
      have ew : IntKind.i64.wrap ((n : Int) + 1) = (n : Int) + 1 := IntWalk.i64_in _ (by omega)
      obtain ⟨z0, _, _, g, z1, hg⟩ := (HH.out.below hB).is hlt
      cases hh : has s (n : Int) with
      | false =>
        rw [hh] at z0
        have e := low_not hs.ris hh
        have HF : Hid (V.ownsRow w.heap.size 26 2 u3 (low s ((n : Int) + 1)).length (csM (low s ((n : Int) + 1))) ∧ Below w.heap.size w V) := by rw [Hid, e]; exact ⟨hr, hB⟩
        clear hr hB z1 hg e
        go_wp2
        go_roundw
        case rel => exact ⟨n + 1, by omega, by push_cast; rfl, HF.out⟩
        case measure => simp [intOf]; omega
      | true =>
        rw [hh] at z0
        obtain rfl := hg hh
        have e := low_yes hs.ris hh
        have hll := low_len s (n : Int)
        obtain ⟨v', W3, hrun, ho, hgr, _, _⟩ := run_append_own_at (P := Try.prog) (V.alloc (.cells #[.int .i64 (n : Int), .int .u32 (at_ s (n : Int)).g] 26)) w.heap.size 42 42 26 i0 _ 2 16 Try.underlying42 hi hz0 hz1 hz2 rfl (by decide) u3 (low s (n : Int)).length (csM (low s (n : Int))) (hr.alloc _) ⟨V.heap.size, 0, none⟩ 1 1 [.int .i64 (n : Int), .int .u32 (at_ s (n : Int)).g] rfl (World.news_of_block (cs := #[.int .i64 (n : Int), .int .u32 (at_ s (n : Int)).g]) (World.alloc_heap_new V _)) (by intro u hu; simp at hu; rcases hu with rfl | rfl <;> rfl) (by unfold maxLen; omega) (by omega) (by have := hB.size; simp; omega)
        have HF : Hid (W3.ownsRow w.heap.size 26 2 v' (low s ((n : Int) + 1)).length (csM (low s ((n : Int) + 1))) ∧ Below w.heap.size w W3) := by
          rw [Hid, e, List.length_append, List.length_singleton, csM_append]
          exact ⟨ho, (hB.trans ((alloc_below V _).mono hB.size)).grown hgr (by have := hB.size; simp; omega) (fun k hk => (hr.lt k hk).1)⟩
        clear hr hB e ho hgr hll hg
        generalize (at_ s (n : Int)).g = gg at *
        go_wp2_with (at_builtin; refine wpList_run rfl (.tmp 15) (.tmp 24) 42 rfl (by simp [Act.eval]) (by simp [Act.eval]) hrun ?_)
        go_roundw
        case rel => exact ⟨n + 1, by omega, by push_cast; rfl, HF.out⟩
        case measure => simp [intOf]; omega
    · obtain rfl : n = 1024 := by omega
      have d0 : decide (((1024 : Nat) : Int) < 1024) = false := by decide
      have HF := Lib.hid (HQ.out u3 V (by have := hr; rw [show ((1024 : Nat) : Int) = 1024 from rfl, low_all hs] at this; exact this) hB)
      clear hr hB
      go_wp2
      first | exact HF.out | (go_ret; exact HF.out)
end Go.Proofs.Ytijhkjegpcmjoaa
