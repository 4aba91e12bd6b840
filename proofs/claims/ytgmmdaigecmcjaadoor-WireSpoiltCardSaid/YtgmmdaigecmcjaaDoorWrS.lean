/-
  The law WireSpoilt.
-/
import Derived.Test.YtgmmdaigecmcjaaDoorWrS0
namespace Go.Proofs.YtgmmdaigecmcjaaDoor
set_option maxRecDepth 100000
set_option linter.unusedSimpArgs false
open Go Go.RowKit Wr

set_option maxHeartbeats 8000000 in
theorem wspoilt_any {w : World} (hT : Tab w) (p : Pkt) {A : Option Addr} (cap : Nat) (hC : ClaimsAt w A p.msg.claims) (hf : Fits p) (hlm : p.msg.claims.length ≤ maxLen) (at_ : Int) {c : Nat} (hc : c < 256) {B : Option Addr} {l : List Nat} {cb : Nat} (hB : BytesAt w B l) (hlt : ∀ c ∈ l, c < 256) (hcb : l.length ≤ cb) (hcm : cb ≤ maxLen) (hnil : B = none → l = [] ∧ cb = 0) :
    Calls Tryd.prog 7 #[pktA p A p.msg.claims.length cap, .int .i64 at_, .int .u8 (c : Nat), .slice B l.length cb] w fun e w' => e = .returned (.bool true) ∧ Below w.heap.size w w' := by
  obtain ⟨P, hP⟩ : ∃ P : Ending → World → Prop, P = fun e w' => e = .returned (.bool true) ∧ Below w.heap.size w w' := ⟨_, rfl⟩
  have HQ : Hid (∀ w', Below w.heap.size w w' → P (.returned (.bool true)) w') := by rw [hP]; exact fun w' h => ⟨rfl, h⟩
  rw [← hP]
  clear hP
  have HT : Hid (∀ W, Below w.heap.size w W → Tab W) := fun W h => hT.below h
  have HC : Hid (∀ W, Below w.heap.size w W → ClaimsAt W A p.msg.claims) := fun W h => hC.below h
  have HB : Hid (∀ W, Below w.heap.size w W → BytesAt W B l) := fun W h => hB.below h
  have HF := Lib.hid hf
  have HLT := Lib.hid hlt
  have HNL := Lib.hid hnil
  obtain ⟨n, hn⟩ : ∃ n, n = p.msg.claims.length := ⟨_, rfl⟩
  obtain ⟨M, hL⟩ : ∃ M, M = l.length := ⟨_, rfl⟩
  have HN := Lib.hid hn
  have HL := Lib.hid hL
  have hmx : maxLen < 9223372036854775808 := by decide
  have hnb : n < 9223372036854775808 := by omega
  have hLb : M < 9223372036854775808 := by omega
  rw [← hn, ← hL]
  clear hT hC hf hlm hB hlt hmx hn hL hcm hcb hnil
  go_enter Tryd.func7, Tryd.ntmps7
  go_wp2_with fail
  have hb0 : (w.alloc (.cells (pktC p A n cap) 28)).heap[w.heap.size]? = some (.cells (pktC p A n cap) 28 (0, 0)) := World.alloc_heap_new w _
  have HW0 : Hid (Below w.heap.size w (w.alloc (.cells (pktC p A n cap) 28))) := (Below.refl _ w).alloc (Nat.le_refl _) _
  refine (alive_any (HT.out _ HW0.out)).mono ?_
  rintro e w1 ⟨rfl, hb1⟩
  have HW1 : Hid (Below w.heap.size w w1) := HW0.out.trans (hb1.mono HW0.out.size)
  have HP1 : Hid (w1.heap[w.heap.size]? = some (.cells (pktC p A n cap) 28 (0, 0))) := ((Kept.of_below (X := fun _ => False) hb1 (Nat.le_refl _)).block _ (blk_lt hb0) id).trans hb0
  clear hb0 hb1 HW0
  obtain ⟨d0, d1, d2, d3, d4, d5, d6, d7, d8, d9, d10, d11, d12, d13, d14⟩ := pkt_cells HP1.out
  by_cases h100 : 100 < n
  · go_wp2
    first | exact HQ.out _ HW1.out | (go_ret; exact HQ.out _ HW1.out)
  by_cases h500 : 100 < M
  · go_wp2
    first | exact HQ.out _ HW1.out | (go_ret; exact HQ.out _ HW1.out)
  have BP := bytesB_any (HT.out _ HW1.out) p cap (HC.out _ HW1.out) (by rw [← HN.out]; omega) HF.out
  rw [← HN.out] at BP
  go_wp2_with fail
  refine BP.mono ?_
  clear BP d0 d1 d2 d3 d4 d5 d6 d7 d8 d9 d10 d11 d12 d13 d14
  rintro e w2 ⟨hb2, ⟨hok, rfl⟩ | ⟨hok, g, cg, rfl, hg, hB⟩⟩
  · have HW2 : Hid (Below w.heap.size w w2) := HW1.out.trans (hb2.mono HW1.out.size)
    clear hb2
    go_wp2
    first | exact HQ.out _ HW2.out | (go_ret; exact HQ.out _ HW2.out)
  · have HW2 : Hid (Below w.heap.size w w2) := HW1.out.trans (hb2.mono HW1.out.size)
    have HBg := Lib.hid hB
    have HOK := Lib.hid hok
    have hg0 : w.heap.size < g := Nat.lt_of_le_of_lt HW1.out.size hg
    have hL1 := (bytes_38 p).1
    have hL3 := bytes_le hok
    have hLB := hB.le
    obtain ⟨L, hLL⟩ : ∃ L, L = (Wr.bytes p).length := ⟨_, rfl⟩
    have HLL := Lib.hid hLL
    rw [← hLL] at hL1 hL3 hLB ⊢
    obtain ⟨s1, N, hN, s2⟩ := mod_facts at_ hL1 hL3
    have hL0 : ¬ L = 0 := by omega
    have hL00 : ((L : Int) == 0) = false := by simp; omega
    have hN0 : (0 : Int) ≤ (N : Int) := by omega
    have hN1 : (N : Int) < (L : Int) := by omega
    clear hb2 hB hok hLL HP1 HW1 hg
    have HY : Hid (∀ W, Below w2.heap.size w2 W → Below w.heap.size w W ∧ Tab W ∧ BytesAt W (some ⟨g, 0, none⟩) (Wr.bytes p) ∧ BytesAt W B l ∧ W.cell? ⟨g, N, none⟩ = some (.int .u8 (((Wr.bytes p).getD N 0 : Nat) : Int))) := fun W h => by
      have h2 := HW2.out.trans (h.mono HW2.out.size)
      exact ⟨h2, HT.out _ h2, (HBg.out.below h).at_, HB.out _ h2, (HBg.out.below h).cell (by rw [← HLL.out]; exact hN)⟩
    have hne := bytes_ne p
    obtain ⟨y, hy⟩ : ∃ y, y = (Wr.bytes p).getD N 0 := ⟨_, rfl⟩
    have HYY := Lib.hid hy
    rw [← hy] at HY
    clear hy
    go_wp2_with (at_builtin; refine wpList_append_bytes rfl (.tmp 63) (.tmp 64) rfl w2.heap.size (n := 0) (L := []) rfl (World.ownsRow_made w2 #[] 0 (Nat.le_refl _) (Nat.zero_le _) (by simp)) (m := L) (news := Wr.bytes p) rfl ?q1 HLL.out ?q2 ?q3 ?q4 ?_)
    case q1 => exact (HY.out _ ((Below.refl _ w2).alloc (Nat.le_refl _) _)).2.2.1
    case q2 => exact fun h => by cases h
    case q3 => omega
    case q4 => simp
    intro vs w3 hown hgrow
    have hY3 : Below w2.heap.size w2 w3 := ((Below.refl _ w2).alloc (Nat.le_refl _) _).grown hgrow (by simp) (by intro k hk; simp [Value.ownBlock] at hk; omega)
    rw [HLL.out] at hown
    obtain ⟨gs, cs, rfl, hgs, hBs⟩ := row_blk hown hne
    have hcs := hBs.le
    have c1 := hBs.cell (j := N) (by rw [← HLL.out]; exact hN)
    have f1 := hBs.free N
    have hY4 : Below w2.heap.size w2 (w3.setCell ⟨gs, N, none⟩ (.int .u8 (c : Nat))) := hY3.setCell (p := ⟨gs, N, none⟩) hgs _
    have R1 := read_flag (HY.out _ hY4).2.1 (hBs.set (j := N) (by rw [← HLL.out]; exact hN) c).at_ (by rw [List.length_set]; exact hcs) (fun b hb => by
      rcases List.mem_or_eq_of_mem_set hb with h | h
      · exact bytes_lt p b h
      · omega) (by rw [List.length_set, ← HLL.out]; omega)
    rw [List.length_set, ← HLL.out] at R1
    rw [← HLL.out] at hcs
    rw [← HLL.out]
    obtain ⟨r1, hr1⟩ : ∃ r1 : Int, r1 = (if (readF ((Wr.bytes p).set N c)).isSome then 0 else 70) := ⟨_, rfl⟩
    have HR1 := Lib.hid hr1
    rw [← hr1] at R1
    have HY4 := Lib.hid hY4
    simp only [byV] at c1
    clear hr1 hY4 hY3 hBs hown hgrow
    go_wp2_with fail
    refine R1.mono ?_
    clear R1 c1 f1
    rintro e w5 ⟨q1, A1, n1, k1, rfl, hb5⟩
    have HY5 : Hid (∀ o, Below w2.heap.size w2 (w5.alloc o)) := fun o => by
      have h := HY4.out.trans (hb5.mono HY4.out.size)
      exact h.alloc h.size o
    clear hb5 HY4
    have R2 : Hid (∀ W, Below w2.heap.size w2 W → Calls Tryd.prog 16 #[.slice (some ⟨g, 0, none⟩) N cg] W fun e w' => e = .returned (.tuple #[.agg pktZ, .int .i64 70]) ∧ Below W.heap.size W w') := fun W h => by
      obtain ⟨_, hT', hB', _, _⟩ := HY.out W h
      have hl : ((Wr.bytes p).take N).length = N := by rw [List.length_take, ← HLL.out]; omega
      have := read_none hT' (hB'.take N) (cap := cg) (by rw [hl]; omega) (fun b hb => bytes_lt p b (List.mem_of_mem_take hb)) (by rw [hl]; omega) (cut_none HOK.out HF.out (by rw [← HLL.out]; exact hN))
      rwa [hl] at this
    go_wp2_with fail
    refine (R2.out _ (HY5.out _)).mono ?_
    rintro e w6 ⟨rfl, hb6⟩
    have HY6 : Hid (∀ o, Below w2.heap.size w2 (w6.alloc o)) := fun o => by
      have h := (HY5.out _).trans (hb6.mono (HY5.out _).size)
      exact h.alloc h.size o
    clear hb6 HY5 R2
    have HOW : Hid (∀ o, ((w6.alloc o).alloc (.cells #[] 5)).ownsRow (w6.heap.size + 1) 5 1 (.slice (some ⟨w6.heap.size + 1, 0, none⟩) 0 0) 0 (([] : List Nat).map byV)) := fun o => by
      have := World.ownsRow_made (e := 5) (size := 1) (w6.alloc o) #[] 0 (Nat.le_refl _) (Nat.zero_le _) (by simp)
      rw [World.size_alloc] at this
      exact this
    go_wp2_with (at_builtin; go_loud (refine wpList_append_bytes rfl (.tmp 83) (.tmp 84) rfl (w6.heap.size + 1) (n := 0) (L := []) rfl (HOW.out _) (m := L) (news := Wr.bytes p) rfl ?q1 HLL.out ?q2 ?q3 ?q4 ?_))
    case q1 => exact (HY.out _ ((HY6.out _).alloc (HY6.out _).size _)).2.2.1
    case q2 => exact fun h => by cases h
    case q3 => omega
    case q4 => simp
    intro v7 w7 hown7 hgrow7
    have HY7 : Hid (Below w2.heap.size w2 w7) := (((HY6.out _).alloc (HY6.out _).size _).grown hgrow7 (by simp; have := (HY6.out (.cells #[] 0)).size; simp at this; omega) (by intro k hk; simp [Value.ownBlock] at hk; have := (HY6.out (.cells #[] 0)).size; simp at this; omega))
    have hsz7 : w6.heap.size + 1 ≤ w7.heap.size := by have := hgrow7.size; simp at this; omega
    have HOW7 := Lib.hid hown7
    clear hown7 hgrow7 HOW
    go_wp2_with (at_builtin; go_loud (refine wpList_append_bytes rfl (.tmp 85) (.tmp 86) rfl (w6.heap.size + 1) (n := L) (L := Wr.bytes p) rfl HOW7.out (m := M) (news := l) rfl ?q1 HL.out ?q2 ?q3 ?q4 ?_))
    case q1 => exact (HY.out _ HY7.out).2.2.2.1
    case q2 => exact HNL.out
    case q3 => omega
    case q4 => exact hsz7
    intro v8 w8 hown8 hgrow8
    have hge : ∀ k, v7.ownBlock = some k → w6.heap.size + 1 ≤ k := fun k hk => (HOW7.out.lt k hk).1
    have HY8 : Hid (Below w2.heap.size w2 w8) := HY7.out.grown hgrow8 HY7.out.size (fun k hk => by have := hge k hk; have := (HY6.out (.cells #[] 0)).size; simp at this; omega)
    have HLA : Hid (L + M = (Wr.bytes p ++ l).length) := by rw [Hid, List.length_append, ← HLL.out, ← HL.out]
    rw [← List.map_append, HLA.out] at hown8
    obtain ⟨g8, k8, rfl, _, hB8⟩ := row_blk hown8 (by simp [hne])
    have R3 := read_flag (HY.out _ HY8.out).2.1 hB8.at_ hB8.le (fun b hb => by
      rcases List.mem_append.1 hb with h | h
      · exact bytes_lt p b h
      · exact HLT.out b h) (by rw [← HLA.out]; omega)
    rw [← HLA.out] at R3
    rw [← HLA.out]
    obtain ⟨r3, hr3⟩ : ∃ r3 : Int, r3 = (if (readF (Wr.bytes p ++ l)).isSome then 0 else 70) := ⟨_, rfl⟩
    have HR3 := Lib.hid hr3
    rw [← hr3] at R3
    clear hr3 hown8 hgrow8 hge hB8
    go_wp2_with fail
    refine R3.mono ?_
    clear R3
    rintro e w9 ⟨q3, A3, n3, k3, rfl, hb9⟩
    have HY9 : Hid (∀ o, Below w2.heap.size w2 (w9.alloc o)) := fun o => by
      have h := HY8.out.trans (hb9.mono HY8.out.size)
      exact h.alloc h.size o
    have HWF : Hid (∀ o, Below w.heap.size w (w9.alloc o)) := fun o => (HY.out _ (HY9.out o)).1
    have cN : ∀ o, (w9.alloc o).cell? ⟨g, N, none⟩ = some (.int .u8 (y : Nat)) := fun o => (HY.out _ (HY9.out o)).2.2.2.2
    have hNL : N < (Wr.bytes p).length := by rw [← HLL.out]; exact hN
    have E1 : (c = y ∧ r1 = 0) ∨ (c ≠ y ∧ r1 = 70) := by
      by_cases hcy : c = y
      · refine .inl ⟨hcy, ?_⟩
        rw [HR1.out, hcy, HYY.out, spoil_same HOK.out HF.out hNL]
        rfl
      · refine .inr ⟨hcy, ?_⟩
        rw [HR1.out, spoil_none hNL hc (by rw [← HYY.out]; exact hcy)]
        rfl
    have E3 : (M = 0 ∧ r3 = 0) ∨ (M ≠ 0 ∧ r3 = 70) := by
      by_cases hm : M = 0
      · refine .inl ⟨hm, ?_⟩
        have : l = [] := List.length_eq_zero_iff.1 (by rw [← HL.out]; exact hm)
        rw [HR3.out, this, List.append_nil, read_bytes HOK.out HF.out]
        rfl
      · refine .inr ⟨hm, ?_⟩
        have : l ≠ [] := fun e => hm (by rw [HL.out, e]; rfl)
        rw [HR3.out, read_more HOK.out HF.out this]
        rfl
    clear hb9 HY8 HY7 HY6 HY9 HY HOW7 HR1 HR3 HLA HYY hne hNL HW2 HBg
    rcases E1 with ⟨rfl, rfl⟩ | ⟨hcy, rfl⟩
    · rcases E3 with ⟨hm, rfl⟩ | ⟨hm, rfl⟩
      · have z1 : ((M : Int) == 0) = true := by simp; omega
        go_wp2
        first | exact HQ.out _ (HWF.out _) | (go_ret; exact HQ.out _ (HWF.out _))
      · have z1 : ((M : Int) == 0) = false := by simp; omega
        go_wp2
        first | exact HQ.out _ (HWF.out _) | (go_ret; exact HQ.out _ (HWF.out _))
    · have z2 : ((c : Int) == (y : Int)) = false := by simp; omega
      rcases E3 with ⟨hm, rfl⟩ | ⟨hm, rfl⟩
      · have z1 : ((M : Int) == 0) = true := by simp; omega
        go_wp2
        first | exact HQ.out _ (HWF.out _) | (go_ret; exact HQ.out _ (HWF.out _))
      · have z1 : ((M : Int) == 0) = false := by simp; omega
        go_wp2
        first | exact HQ.out _ (HWF.out _) | (go_ret; exact HQ.out _ (HWF.out _))
end Go.Proofs.YtgmmdaigecmcjaaDoor
