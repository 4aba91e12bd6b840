/-
  The law WireSizes.
-/
import Derived.Test.YtgmmdaigecmcjaaDoorWrJ0
import Derived.Deep.RegionHeld3
import Derived.Deep.DeepCutAuto
namespace Go.Proofs.YtgmmdaigecmcjaaDoor
set_option maxRecDepth 100000
set_option linter.unusedSimpArgs false
open Go Go.RowKit Wr

set_option maxHeartbeats 4000000 in
theorem wsizes_any {w : World} (hT : Tab w) (p : Pkt) {A : Option Addr} (cap : Nat) (hC : ClaimsAt w A p.msg.claims) (hf : Fits p) {sq mt : Nat} (hs : sq < 4294967296) (hm : mt < 4294967296) (hlm : p.msg.claims.length ≤ maxLen) :
    Calls Tryd.prog 8 #[pktA p A p.msg.claims.length cap, .int .u32 (sq : Nat), .int .u32 (mt : Nat)] w fun e w' => e = .returned (.bool true) ∧ Below w.heap.size w w' := by
  obtain ⟨P, hP⟩ : ∃ P : Ending → World → Prop, P = fun e w' => e = .returned (.bool true) ∧ Below w.heap.size w w' := ⟨_, rfl⟩
  have HQ : Hid (∀ w', Below w.heap.size w w' → P (.returned (.bool true)) w') := by rw [hP]; exact fun w' h => ⟨rfl, h⟩
  rw [← hP]
  clear hP
  have HT := Lib.hid hT
  have HC := Lib.hid hC
  have HF := Lib.hid hf
  have HS := Lib.hid hs
  have HM := Lib.hid hm
  obtain ⟨n, hn⟩ : ∃ n, n = p.msg.claims.length := ⟨_, rfl⟩
  have HN := Lib.hid hn
  have hmx : maxLen < 9223372036854775808 := by decide
  have hnb : n < 9223372036854775808 := by omega
  rw [← hn]
  clear hT hC hf hs hm hn hlm hmx
  go_enter Tryd.func8, Tryd.ntmps8
  go_wp2_with fail
  have hb0 : (w.alloc (.cells (pktC p A n cap) 28)).heap[w.heap.size]? = some (.cells (pktC p A n cap) 28 (0, 0)) := World.alloc_heap_new w _
  have HW0 : Hid (Below w.heap.size w (w.alloc (.cells (pktC p A n cap) 28))) := (Below.refl _ w).alloc (Nat.le_refl _) _
  refine (alive_any (HT.out.below HW0.out)).mono ?_
  rintro e w1 ⟨rfl, hb1⟩
  have HW1 : Hid (Below w.heap.size w w1) := HW0.out.trans (hb1.mono HW0.out.size)
  have HP1 : Hid (w1.heap[w.heap.size]? = some (.cells (pktC p A n cap) 28 (0, 0))) := ((Kept.of_below (X := fun _ => False) hb1 (Nat.le_refl _)).block _ (blk_lt hb0) id).trans hb0
  clear hb0 hb1 HW0
  obtain ⟨d0, d1, d2, d3, d4, d5, d6, d7, d8, d9, d10, d11, d12, d13, d14⟩ := pkt_cells HP1.out
  by_cases h100 : 100 < n
  · go_wp2
    first | exact HQ.out _ HW1.out | (go_ret; exact HQ.out _ HW1.out)
  · have HB := bytesB_any (HT.out.below HW1.out) p cap (HC.out.below HW1.out) (by rw [← HN.out]; omega) HF.out
    rw [← HN.out] at HB
    go_wp2_with fail
    refine HB.mono ?_
    rintro e w2 ⟨hb2, ⟨hok, rfl⟩ | ⟨hok, g, cg, rfl, hg, hB⟩⟩
    · have HW2 : Hid (Below w.heap.size w w2) := HW1.out.trans (hb2.mono HW1.out.size)
      clear hb2 HB d0 d1 d2 d3 d4 d5 d6 d7 d8 d9 d10 d11 d12 d13 d14
      go_wp2
      first | exact HQ.out _ HW2.out | (go_ret; exact HQ.out _ HW2.out)
    · have HW2 : Hid (Below w.heap.size w w2) := HW1.out.trans (hb2.mono HW1.out.size)
      have HP2 : Hid (w2.heap[w.heap.size]? = some (.cells (pktC p A n cap) 28 (0, 0))) := ((Kept.of_below (X := fun _ => False) hb2 (Nat.le_refl _)).block _ (blk_lt HP1.out) id).trans HP1.out
      have HB2 := Lib.hid hB
      have HOK := Lib.hid hok
      clear hb2 HB d0 d1 d2 d3 d4 d5 d6 d7 d8 d9 d10 d11 d12 d13 d14 hB hok HP1 HW1 hg
      obtain ⟨d0, d1, d2, d3, d4, d5, d6, d7, d8, d9, d10, d11, d12, d13, d14⟩ := pkt_cells HP2.out
      go_wp2_with fail
      have HW3 : Hid (∀ o, Below w2.heap.size w2 (w2.alloc o)) := fun o => (Below.refl _ w2).alloc (Nat.le_refl _) o
      have HC3 : Hid (∀ W, Below w2.heap.size w2 W → Tab W ∧ ClaimsAt W A p.msg.claims) := fun W h => ⟨HT.out.below (HW2.out.trans (h.mono HW2.out.size)), HC.out.below (HW2.out.trans (h.mono HW2.out.size))⟩
      have HB3 := bytesB_any (HC3.out _ (HW3.out (.cells (pktC (withN p sq mt) A n cap) 28))).1 (withN p sq mt) cap (HC3.out _ (HW3.out _)).2 (by show p.msg.claims.length ≤ _; rw [← HN.out]; omega) (withN_fits HF.out HS.out HM.out)
      have e1 : (withN p sq mt).msg.claims.length = n := HN.out.symm
      rw [e1] at HB3
      refine HB3.mono ?_
      rintro e w4 ⟨hb4, ⟨hok, _⟩ | ⟨_, g2, cg2, rfl, hg2, hB4⟩⟩
      · rw [withN_ok, HOK.out] at hok; cases hok
      · have HW4 : Hid (Below w2.heap.size w2 w4) := (HW3.out _).trans (hb4.mono (by simp))
        have HBa : Hid (Blk w4 g cg (Wr.bytes p)) := HB2.out.below HW4.out
        have HBb := Lib.hid hB4
        have HP4 : Hid (w4.heap[w.heap.size]? = some (.cells (pktC p A n cap) 28 (0, 0))) := ((Kept.of_below (X := fun _ => False) HW4.out (Nat.le_refl _)).block _ (blk_lt HP2.out) id).trans HP2.out
        have HW5 : Hid (∀ W, Below w4.heap.size w4 W → Below w.heap.size w W) := fun W h => HW2.out.trans (((HW4.out).trans (h.mono HW4.out.size)).mono HW2.out.size)
        obtain ⟨k, hk⟩ : ∃ k, k = (Wr.bytes p).getD 36 0 := ⟨_, rfl⟩
        have hkk : p.msg.kind = (k : Int) := by rw [hk]; exact (bytes_36 HOK.out).symm
        have HSZ : Hid (∀ W, Below w4.heap.size w4 W → Calls Tryd.prog 15 #[.agg #[.int .i64 (k : Int), .int .i64 p.msg.cell, .int .u32 (p.msg.gen : Nat), .int .u64 (p.msg.stamp : Nat), .int .i64 p.msg.prio, .int .i64 p.msg.hops, .int .i64 p.msg.origin, .int .i64 p.msg.other, .slice A n cap]] W fun e w' => e = .returned (.int .i64 (((Wr.bytes p).length : Nat) : Int)) ∧ Below w4.heap.size w4 w') := by
          intro W h
          obtain ⟨h1, h2⟩ := HC3.out W (HW4.out.trans (h.mono HW4.out.size))
          have := size_any h1 p.msg cap h2 (by rw [← HN.out]; omega) HF.out.gen
          rw [okP_msg HOK.out, ← HN.out] at this
          rw [bytes_len, ← hkk]
          refine this.mono ?_
          rintro e w' ⟨rfl, hb⟩
          exact ⟨rfl, h.trans (hb.mono h.size)⟩
        have HLD : Hid (∀ W, Below w4.heap.size w4 W → W.cell? ⟨g, 36, none⟩ = some (.int .u8 (k : Nat)) ∧ W.cell? ⟨w.heap.size, 6, none⟩ = some (.int .i64 (k : Int)) ∧ W.cell? ⟨w.heap.size, 7, none⟩ = some (.int .i64 p.msg.cell) ∧ W.cell? ⟨w.heap.size, 8, none⟩ = some (.int .u32 (p.msg.gen : Nat)) ∧ W.cell? ⟨w.heap.size, 9, none⟩ = some (.int .u64 (p.msg.stamp : Nat)) ∧ W.cell? ⟨w.heap.size, 10, none⟩ = some (.int .i64 p.msg.prio) ∧ W.cell? ⟨w.heap.size, 11, none⟩ = some (.int .i64 p.msg.hops) ∧ W.cell? ⟨w.heap.size, 12, none⟩ = some (.int .i64 p.msg.origin) ∧ W.cell? ⟨w.heap.size, 13, none⟩ = some (.int .i64 p.msg.other) ∧ W.cell? ⟨w.heap.size, 14, none⟩ = some (.slice A n cap)) := by
          intro W h
          have h1 := (HBa.out.below h).cell (j := 36) (by have := (bytes_38 p).1; omega)
          have hp := ((Kept.of_below (X := fun _ => False) h (Nat.le_refl _)).block _ (blk_lt HP4.out) id).trans HP4.out
          obtain ⟨_, _, _, _, _, _, q6, q7, q8, q9, q10, q11, q12, q13, q14⟩ := pkt_cells hp
          exact ⟨by rw [h1, ← hk]; rfl, by rw [q6, hkk], q7, q8, q9, q10, q11, q12, q13, q14⟩
        have HLo : Hid (∀ W, Below w4.heap.size w4 W → ∀ i, i < (Wr.bytes p).length → W.cell? ⟨g, i, none⟩ = some (.int .u8 (((Wr.bytes p).getD i 0 : Nat) : Int)) ∧ W.cell? ⟨g2, i, none⟩ = some (.int .u8 (((Wr.bytes (withN p sq mt)).getD i 0 : Nat) : Int))) := fun W h i hi => ⟨(HBa.out.below h).cell hi, (HBb.out.below h).cell (by rw [withN_len]; exact hi)⟩
        have HPR : Hid (∀ i, i < (Wr.bytes p).length → i % 2 = 0 → i + 1 < (Wr.bytes p).length ∧ (Wr.bytes p).getD i 0 < 256 ∧ (Wr.bytes p).getD i 0 + (Wr.bytes p).getD (i + 1) 0 = 255 ∧ (i < 20 ∨ 36 ≤ i → (Wr.bytes (withN p sq mt)).getD i 0 = (Wr.bytes p).getD i 0)) := by
          intro i hi h2
          have e : i = 2 * (i / 2) := by omega
          obtain ⟨a1, a2, a3⟩ := bytes_pair p (k := i / 2) (by omega)
          have a4 := bytes_even p sq mt (k := i / 2)
          rw [← e] at a1 a2 a3 a4
          exact ⟨a1, a2, a3, a4⟩
        have hL1 := (bytes_38 p).1
        have hL2 := (bytes_38 p).2
        have hL3 := bytes_le HOK.out
        have hLB := HBa.out.le
        have hk8 : k < 256 := by
          rw [hk]
          have := (HPR.out 36 (by omega) (by omega)).2.1
          exact this
        have e2 : (Wr.bytes (withN p sq mt)).length = (Wr.bytes p).length := withN_len p sq mt
        have hLB2 := HBb.out.le
        rw [e2] at hLB2 ⊢
        clear hb4 hB4 hg2 HW4 HBa HBb HP4 HW2 HP2 HB2 HC3 HB3 e1 d0 d1 d2 d3 d4 d5 d6 d7 d8 d9 d10 d11 d12 d13 d14 hk hkk HW3 HT HC HF HS HM HN e2
        generalize (Wr.bytes p).getD = G at *
        generalize (Wr.bytes (withN p sq mt)).getD = G2 at *
        generalize (Wr.bytes p).length = L at *
        generalize w.heap.size = b0 at *
        generalize p.msg.cell = m1 at *
        generalize p.msg.gen = m2 at *
        generalize p.msg.stamp = m3 at *
        generalize p.msg.prio = m4 at *
        generalize p.msg.hops = m5 at *
        generalize p.msg.origin = m6 at *
        generalize p.msg.other = m7 at *
        have t1 : ((L : Int) != (L : Int)) = false := by simp
        have t2 : decide ((L : Int) < 38) = false := by simp; omega
        have t3 : ((L : Int).tmod 2 != 0) = false := by
          have : (L : Int).tmod 2 = ((L % 2 : Nat) : Int) := rfl
          rw [this, hL2]; rfl
        have t4 : ((k : Int) != (k : Int)) = false := by simp
        have t8 : IntKind.i64.wrap (k : Int) = (k : Int) := by rw [wrap_w64]; unfold w64; omega
        have t5 : (36 : Int) < (L : Int) := by omega
        have t6 : (0 : Int) ≤ (36 : Int) := by omega
        have t7 : (0 : Int) ≤ ((36 : Nat) : Int) := by omega
        go_wp2_with fail
        go_region_held3 (fun W => W.cell? ⟨g, 36, none⟩ = some (.int .u8 (k : Nat)) ∧ W.cell? ⟨b0, 6, none⟩ = some (.int .i64 (k : Int)) ∧ W.cell? ⟨b0, 7, none⟩ = some (.int .i64 m1) ∧ W.cell? ⟨b0, 8, none⟩ = some (.int .u32 (m2 : Nat)) ∧ W.cell? ⟨b0, 9, none⟩ = some (.int .u64 (m3 : Nat)) ∧ W.cell? ⟨b0, 10, none⟩ = some (.int .i64 m4) ∧ W.cell? ⟨b0, 11, none⟩ = some (.int .i64 m5) ∧ W.cell? ⟨b0, 12, none⟩ = some (.int .i64 m6) ∧ W.cell? ⟨b0, 13, none⟩ = some (.int .i64 m7) ∧ W.cell? ⟨b0, 14, none⟩ = some (.slice A n cap)) (first | exact HLD.out _ hbS | exact HLD.out _ (Below.refl _ _).drew | exact HLD.out _ (Below.refl _ _)) (first | (go_at_call 15; (with_reducible refine (HSZ.out _ ((Below.refl _ _).drew)).mono ?_); rintro e w5 ⟨rfl, hbS⟩))
        have HBS := Lib.hid hbS
        rename_i hHeld
        clear hbS HSZ HLD hHeld
        go_wp2
        clear t1 t2 t3 t4 t5 t6 t7 t8
        go_loopw [13] (fun v wr => ∃ i : Nat, i ≤ L ∧ i % 2 = 0 ∧ v = .int .i64 (i : Int) ∧ Below w4.heap.size w4 wr) (fun v _ => L - (intOf v).toNat)
        case atStart => exact ⟨0, Nat.zero_le _, rfl, rfl, HBS.out⟩
        case round =>
          obtain ⟨i, hi, hi2, rfl, hbr⟩ := hrel
          have HBR := Lib.hid hbr
          clear hbr HBS
          by_cases hlt : i < L
          · obtain ⟨a1, a2, a3, a4⟩ := HPR.out i hlt hi2
            have f0 := (HLo.out wr HBR.out i hlt).1
            have f1 := (HLo.out wr HBR.out (i + 1) a1).1
            have f2 := (HLo.out wr HBR.out i hlt).2
            have A4 := Lib.hid a4
            clear a4
            generalize G i 0 = x at *
            generalize G (i + 1) 0 = y at *
            generalize G2 i 0 = z at *
            have s1 : IntKind.u8.wrap ((x : Int) + (y : Int)) = 255 := by
              have : (x : Int) + (y : Int) = 255 := by omega
              rw [this]; rfl
            have s2 : IntKind.i64.wrap ((i : Int) + 1) = (i : Int) + 1 := by rw [wrap_w64]; unfold w64; omega
            have i0 : (0 : Int) ≤ (i : Int) := by omega
            have i1 : (i : Int) < (L : Int) := by omega
            have i2 : (0 : Int) ≤ (i : Int) + 1 := by omega
            have i3 : (i : Int) + 1 < (L : Int) := by omega
            have HND : Hid (∀ n, Below w4.heap.size w4 (wr.drewN n)) := fun n => belowN' HBR.out n
            by_cases h20 : i < 20
            · have hz := A4.out (.inl h20)
              subst hz
              have d1 : decide ((i : Int) < 20) = true := by simp; omega
              have d3 : decide (i < 20) = true := by simp; omega
              have hzz : ((z : Int) != (z : Int)) = false := by simp
              go_wp2_with fail
              go_quiet (fail)
              go_wp2
              go_roundw
              case rel => exact ⟨i + 2, by omega, by omega, by go_num, HND.out _⟩
              case measure => simp [intOf]; omega
            · by_cases h36 : 36 ≤ i
              · have hz := A4.out (.inr h36)
                subst hz
                have d1 : decide ((i : Int) < 20) = false := by simp; omega
                have d3 : decide (i < 20) = false := by simp; omega
                have d2 : decide ((36 : Int) ≤ (i : Int)) = true := by simp; omega
                have d4 : decide (36 ≤ i) = true := by simp; omega
                have hzz : ((z : Int) != (z : Int)) = false := by simp
                go_wp2_with fail
                go_quiet (fail)
                go_wp2
                go_roundw
                case rel => exact ⟨i + 2, by omega, by omega, by go_num, HND.out _⟩
                case measure => simp [intOf]; omega
              · have d1 : decide ((i : Int) < 20) = false := by simp; omega
                have d2 : decide ((36 : Int) ≤ (i : Int)) = false := by simp; omega
                have d3 : decide (i < 20) = false := by simp; omega
                have d4 : decide (36 ≤ i) = false := by simp; omega
                go_wp2_with fail
                go_quiet (fail)
                go_wp2
                go_roundw
                case rel => exact ⟨i + 2, by omega, by omega, by go_num, HND.out _⟩
                case measure => simp [intOf]; omega
          · obtain rfl : i = L := by omega
            go_wp2
            first | exact HQ.out _ (HW5.out _ HBR.out) | (go_ret; exact HQ.out _ (HW5.out _ HBR.out))
end Go.Proofs.YtgmmdaigecmcjaaDoor
