/-
  The law WireBack.
-/
import Derived.Test.YtgmmdaigecmcjaaDoorWrM
import Derived.Test.YtgmmdaigecmcjaaDoorWrJ0
import Derived.Laws.IdiomStrings
namespace Go.Proofs.YtgmmdaigecmcjaaDoor
set_option maxRecDepth 100000
set_option linter.unusedSimpArgs false
open Go Go.RowKit Wr

def strN (l : List Nat) : ByteArray := ⟨(l.map UInt8.ofNat).toArray⟩
theorem conv_bytes {w : World} {A : Option Addr} {l : List Nat} (cap : Nat) (h : BytesAt w A l) (hlt : ∀ c ∈ l, c < 256) :
    (convert 34 9 (.slice A l.length cap)).run Tryd.prog w = .ok (.string (strN l)) w := by
  have h1 : Tryd.prog.underlying 34 = some (.slice 5) := by kernel_rfl
  have h2 : Tryd.prog.underlying 5 = some (.int .u8) := by kernel_rfl
  have h3 : Tryd.prog.underlying 9 = some .string := by kernel_rfl
  cases A with
  | none =>
    have hl : l = [] := by
      cases l with
      | nil => rfl
      | cons c l => obtain ⟨a, ha, _⟩ := h 0 (by simp); cases ha
    subst hl
    exact run_convert_bytes_nil w _ _ h1 h2 _ _ _ h3
  | some a =>
    have := run_convert_bytes_back w _ _ _ a cap (l.map UInt8.ofNat) h1 h2 h3 (by
      intro j hj
      rw [List.length_map] at hj
      obtain ⟨a', ha, hc⟩ := h j hj
      cases ha
      rw [hc]
      have hlt' := hlt _ (List.getElem_mem hj)
      simp [byV, List.getD, hj, Nat.mod_eq_of_lt hlt'])
    rw [List.length_map] at this
    exact this
theorem readF_nil : readF [] = none := by decide +kernel
theorem pktZ_no : okP ⟨0, 0, 0, 0, 0, 0, ⟨0, 0, 0, 0, 0, 0, 0, 0, []⟩⟩ = false := by decide +kernel
theorem bytes_zero {w : World} (hT : Tab w) : Calls Tryd.prog 13 #[.agg pktZ] w fun e w' => e = .returned (.tuple #[.slice none 0 0, .int .i64 71]) ∧ Below w.heap.size w w' := by
  have := bytesB_any hT ⟨0, 0, 0, 0, 0, 0, ⟨0, 0, 0, 0, 0, 0, 0, 0, []⟩⟩ 0 (A := none) (fun k hk => by simp at hk) (by decide) ⟨by decide, by decide, by decide, by decide, by decide, by decide, fun c hc => by simp at hc⟩
  refine Calls.mono (P := Tryd.prog) (h := this) ?_
  rintro e w' ⟨hb, ⟨_, rfl⟩ | ⟨h, _⟩⟩
  · exact ⟨rfl, hb⟩
  · rw [pktZ_no] at h; cases h

set_option maxHeartbeats 8000000 in
theorem wback_big {w : World} (hT : Tab w) (p : Pkt) {A : Option Addr} (cap : Nat) (hC : ClaimsAt w A p.msg.claims) (hf : Fits p) (hlm : p.msg.claims.length ≤ maxLen) {B : Option Addr} {l : List Nat} {cb : Nat} (hB : BytesAt w B l) (hlt : ∀ c ∈ l, c < 256) (hcb : l.length ≤ cb) (hcm : cb ≤ maxLen) (hbig : 100 < p.msg.claims.length ∨ 500 < l.length) :
    Calls Tryd.prog 6 #[pktA p A p.msg.claims.length cap, .slice B l.length cb] w fun e w' => e = .returned (.bool true) ∧ Below w.heap.size w w' := by
  obtain ⟨P, hP⟩ : ∃ P : Ending → World → Prop, P = fun e w' => e = .returned (.bool true) ∧ Below w.heap.size w w' := ⟨_, rfl⟩
  have HQ : Hid (∀ w', Below w.heap.size w w' → P (.returned (.bool true)) w') := by rw [hP]; exact fun w' h => ⟨rfl, h⟩
  rw [← hP]
  clear hP
  have HT : Hid (∀ W, Below w.heap.size w W → Tab W) := fun W h => hT.below h
  have HC : Hid (∀ W, Below w.heap.size w W → ClaimsAt W A p.msg.claims) := fun W h => hC.below h
  have HB : Hid (∀ W, Below w.heap.size w W → BytesAt W B l) := fun W h => hB.below h
  have HF := Lib.hid hf
  have HLT := Lib.hid hlt
  obtain ⟨n, hn⟩ : ∃ n, n = p.msg.claims.length := ⟨_, rfl⟩
  obtain ⟨L, hL⟩ : ∃ L, L = l.length := ⟨_, rfl⟩
  have HN := Lib.hid hn
  have HL := Lib.hid hL
  have hmx : maxLen < 9223372036854775808 := by decide
  have hnb : n < 9223372036854775808 := by omega
  have hLb : L < 9223372036854775808 := by omega
  rw [← hL] at hcb
  rw [← hn, ← hL] at hbig
  rw [← hn, ← hL]
  clear hT hC hf hlm hB hlt hmx hn hL hcm
  go_enter Tryd.func6, Tryd.ntmps6
  go_wp2_with fail
  have hb0 : (w.alloc (.cells (pktC p A n cap) 28)).heap[w.heap.size]? = some (.cells (pktC p A n cap) 28 (0, 0)) := World.alloc_heap_new w _
  have HW0 : Hid (Below w.heap.size w (w.alloc (.cells (pktC p A n cap) 28))) := (Below.refl _ w).alloc (Nat.le_refl _) _
  refine (alive_any (HT.out _ HW0.out)).mono ?_
  rintro e w1 ⟨rfl, hb1⟩
  have HW1 : Hid (Below w.heap.size w w1) := HW0.out.trans (hb1.mono HW0.out.size)
  have HP1 : Hid (w1.heap[w.heap.size]? = some (.cells (pktC p A n cap) 28 (0, 0))) := ((Kept.of_below (X := fun _ => False) hb1 (Nat.le_refl _)).block _ (blk_lt hb0) id).trans hb0
  clear hb0 hb1 HW0
  obtain ⟨d0, d1, d2, d3, d4, d5, d6, d7, d8, d9, d10, d11, d12, d13, d14⟩ := pkt_cells HP1.out
  by_cases h100 : 100 < n
  · go_wp2
    first | exact HQ.out _ HW1.out | (go_ret; exact HQ.out _ HW1.out)
  · have h500 : 500 < L := by rcases hbig with h | h <;> omega
    go_wp2
    first | exact HQ.out _ HW1.out | (go_ret; exact HQ.out _ HW1.out)

end Go.Proofs.YtgmmdaigecmcjaaDoor
