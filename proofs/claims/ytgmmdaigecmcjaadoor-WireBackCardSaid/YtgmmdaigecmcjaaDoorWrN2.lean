/-
  The law WireBack: where the bytes are none's.
-/
import Derived.Test.YtgmmdaigecmcjaaDoorWrN0
namespace Go.Proofs.YtgmmdaigecmcjaaDoor
set_option maxRecDepth 100000
set_option linter.unusedSimpArgs false
open Go Go.RowKit Wr

set_option maxHeartbeats 8000000 in
theorem wback_ok0 {w : World} (hT : Tab w) (p : Pkt) {A : Option Addr} (cap : Nat) (hC : ClaimsAt w A p.msg.claims) (hf : Fits p) (_hlm : p.msg.claims.length ≤ maxLen) {B : Option Addr} {l : List Nat} {cb : Nat} (hB : BytesAt w B l) (hlt : ∀ c ∈ l, c < 256) (hcb : l.length ≤ cb) (_hcm : cb ≤ maxLen) (hle : p.msg.claims.length ≤ 100) (hle5 : l.length ≤ 500) (hokp : okP p = true) (hxn : readF l = none) :
    Calls Tryd.prog 6 #[pktA p A p.msg.claims.length cap, .slice B l.length cb] w fun e w' => e = .returned (.bool true) ∧ Below w.heap.size w w' := by
  obtain ⟨P, hP⟩ : ∃ P : Ending → World → Prop, P = fun e w' => e = .returned (.bool true) ∧ Below w.heap.size w w' := ⟨_, rfl⟩
  have HQ : Hid (∀ w', Below w.heap.size w w' → P (.returned (.bool true)) w') := by rw [hP]; exact fun w' h => ⟨rfl, h⟩
  rw [← hP]
  clear hP
  have HT : Hid (∀ W, Below w.heap.size w W → Tab W) := fun W h => hT.below h
  have HC : Hid (∀ W, Below w.heap.size w W → ClaimsAt W A p.msg.claims) := fun W h => hC.below h
  have HB : Hid (∀ W, Below w.heap.size w W → BytesAt W B l) := fun W h => hB.below h
  have HF := Lib.hid hf
  have HLT := Lib.hid hlt
  obtain ⟨n, hn⟩ : ∃ n, n = p.msg.claims.length := ⟨_, rfl⟩
  obtain ⟨L, hL⟩ : ∃ L, L = l.length := ⟨_, rfl⟩
  have HN := Lib.hid hn
  have HL := Lib.hid hL
  have hmx : maxLen < 9223372036854775808 := by decide
  have hnb : n < 9223372036854775808 := by omega
  have hLb : L < 9223372036854775808 := by omega
  rw [← hL] at hcb
  rw [← hn, ← hL]
  clear hT hC hf _hlm hB hlt hmx hn hL _hcm
  go_enter Tryd.func6, Tryd.ntmps6
  go_wp2_with fail
  have hb0 : (w.alloc (.cells (pktC p A n cap) 28)).heap[w.heap.size]? = some (.cells (pktC p A n cap) 28 (0, 0)) := World.alloc_heap_new w _
  have HW0 : Hid (Below w.heap.size w (w.alloc (.cells (pktC p A n cap) 28))) := (Below.refl _ w).alloc (Nat.le_refl _) _
  refine (alive_any (HT.out _ HW0.out)).mono ?_
  rintro e w1 ⟨rfl, hb1⟩
  have HW1 : Hid (Below w.heap.size w w1) := HW0.out.trans (hb1.mono HW0.out.size)
  have HP1 : Hid (w1.heap[w.heap.size]? = some (.cells (pktC p A n cap) 28 (0, 0))) := ((Kept.of_below (X := fun _ => False) hb1 (Nat.le_refl _)).block _ (blk_lt hb0) id).trans hb0
  clear hb0 hb1 HW0
  have HPC : Hid (∀ W, Below w1.heap.size w1 W → W.heap[w.heap.size]? = some (.cells (pktC p A n cap) 28 (0, 0))) := fun W h => ((Kept.of_below (X := fun _ => False) h (Nat.le_refl _)).block _ (blk_lt HP1.out) id).trans HP1.out
  obtain ⟨d0, d1, d2, d3, d4, d5, d6, d7, d8, d9, d10, d11, d12, d13, d14⟩ := pkt_cells HP1.out
  have h100 : ¬ 100 < n := by rw [HN.out]; omega
  have h500 : ¬ 500 < L := by rw [HL.out]; omega
  have BP := bytesB_any (HT.out _ HW1.out) p cap (HC.out _ HW1.out) (by rw [← HN.out]; omega) HF.out
  rw [← HN.out] at BP
  go_wp2_with fail
  refine BP.mono ?_
  clear BP d0 d1 d2 d3 d4 d5 d6 d7 d8 d9 d10 d11 d12 d13 d14
  rintro e w2 ⟨hb2, ⟨hok, rfl⟩ | ⟨hok, g, cg, rfl, hg, hB⟩⟩
  · rw [hokp] at hok; cases hok
  · have HX2 : Hid (Below w.heap.size w w2) := HW1.out.trans (hb2.mono HW1.out.size)
    have HY2 := Lib.hid hb2
    have RP := read_one (HT.out _ HX2.out) hB.at_ hB.le (bytes_lt p) (Nat.le_trans (bytes_le hok) (by decide)) (read_bytes hok HF.out)
    rw [← HN.out] at RP
    clear hb2 hok HP1 hB hg
    generalize (Wr.bytes p).length = LB at *
    go_wp2_with fail
    refine RP.mono ?_
    clear RP
    rintro e w3 ⟨A3, c3, rfl, hC3, hb3⟩
    have HX3 : Hid (∀ o, Below w.heap.size w (w3.alloc o)) := fun o => by
      have h := HX2.out.trans (hb3.mono HX2.out.size)
      exact h.alloc h.size o
    have HY3 : Hid (∀ o, Below w1.heap.size w1 (w3.alloc o)) := fun o => by
      have h := HY2.out.trans (hb3.mono HY2.out.size)
      exact h.alloc h.size o
    have HK3 : Hid ((w3.alloc (.cells (pktC p A3 n c3) 28)).heap[w3.heap.size]? = some (.cells (pktC p A3 n c3) 28 (0, 0)) ∧ ClaimsAt (w3.alloc (.cells (pktC p A3 n c3) 28)) A3 p.msg.claims) := ⟨World.alloc_heap_new w3 _, hC3.below ((Below.refl _ w3).alloc (Nat.le_refl _) _)⟩
    clear hb3 HX2 HY2 hC3
    have RB : Hid (∀ W, Below w.heap.size w W → Calls Tryd.prog 16 #[.slice B L cb] W (ReadPost W l)) := fun W h => by
      have := read_any (HT.out _ h) (HB.out _ h) (cap := cb) (by rw [← HL.out]; exact hcb) HLT.out (by rw [← HL.out]; omega)
      rwa [← HL.out] at this
    go_wp2_with fail
    refine (RB.out _ (HX3.out _)).mono ?_
    clear RB
    rintro e w4 ⟨hb4, ⟨hno, rfl⟩ | ⟨x, Ax, cx, hx, rfl, hCx⟩⟩
    · have HX4 : Hid (∀ o, Below w.heap.size w (w4.alloc o)) := fun o => by
        have h := (HX3.out _).trans (hb4.mono (HX3.out _).size)
        exact h.alloc h.size o
      have HY4 : Hid (∀ o, Below w1.heap.size w1 (w4.alloc o)) := fun o => by
        have h := (HY3.out _).trans (hb4.mono (HY3.out _).size)
        exact h.alloc h.size o
      have HK4 : Hid (∀ o, (w4.alloc o).heap[w3.heap.size]? = some (.cells (pktC p A3 n c3) 28 (0, 0)) ∧ ClaimsAt (w4.alloc o) A3 p.msg.claims) := fun o => by
        have h := hb4.trans ((Below.refl _ w4).alloc (Nat.le_refl _) o |>.mono hb4.size)
        have h' := Kept.of_below (X := fun _ => False) h (Nat.le_refl _)
        exact ⟨(h'.block _ (blk_lt (HK3.out).1) id).trans (HK3.out).1, (HK3.out).2.below h⟩
      clear hb4 hno
      go_wp2_with fail
      refine (bytes_zero (HT.out _ (HX4.out _))).mono ?_
      rintro e w5 ⟨rfl, hb5⟩
      have HX5 : Hid (Below w.heap.size w w5) := (HX4.out _).trans (hb5.mono (HX4.out _).size)
      have HY5 : Hid (Below w1.heap.size w1 w5) := (HY4.out _).trans (hb5.mono (HY4.out _).size)
      have HK5 : Hid (w5.heap[w3.heap.size]? = some (.cells (pktC p A3 n c3) 28 (0, 0)) ∧ ClaimsAt w5 A3 p.msg.claims) := by
        have h' := Kept.of_below (X := fun _ => False) hb5 (Nat.le_refl _)
        exact ⟨(h'.block _ (blk_lt (HK4.out _).1) id).trans (HK4.out _).1, (HK4.out _).2.below hb5⟩
      clear hb5
      obtain ⟨d0, d1, d2, d3, d4, d5, d6, d7, d8, d9, d10, d11, d12, d13, d14⟩ := pkt_cells (HPC.out _ HY5.out)
      obtain ⟨q0, q1, q2, q3, q4, q5, q6, q7, q8, q9, q10, q11, q12, q13, q14⟩ := pkt_cells (HK5.out).1
      have EQ := requal_any p p cap c3 (HC.out _ HX5.out) (HK5.out).2 (by rw [← HN.out]; omega) (by rw [← HN.out]; omega)
      rw [← HN.out, decide_eq_true rfl] at EQ
      clear HK5 HK4 HK3 HPC
      go_wp2_with fail
      refine EQ.mono ?_
      clear EQ
      rintro e w6 ⟨rfl, hb6⟩
      have HX6 : Hid (Below w.heap.size w w6) := HX5.out.trans (hb6.mono HX5.out.size)
      clear hb6 d0 d1 d2 d3 d4 d5 d6 d7 d8 d9 d10 d11 d12 d13 d14 q0 q1 q2 q3 q4 q5 q6 q7 q8 q9 q10 q11 q12 q13 q14
      go_wp2
      first | exact HQ.out _ HX6.out | (go_ret; exact HQ.out _ HX6.out)
    · rw [hxn] at hx; cases hx

end Go.Proofs.YtgmmdaigecmcjaaDoor
