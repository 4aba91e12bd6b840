/-
  The law PileTraces: its walk.
-/
import Derived.Test.YtdhpphkkpjldfabPSys
namespace Go.Proofs.Ytdhpphkkpjldfab
set_option maxRecDepth 100000
open Go Go.RowKit Pq

def firstIt : It := ⟨-9223372036854775808, -9223372036854775808, -9223372036854775808⟩
theorem first_le {x : It} (h : Wf x) : le firstIt x := by
  obtain ⟨h1, h2, h3⟩ := h
  unfold le lt firstIt
  simp
  omega
theorem ins_first {l : List It} (h : ∀ x ∈ l, Wf x) : ins firstIt (srt l) = firstIt :: srt l :=
  ins_of_le (fun y hy => first_le (h y ((srt_perm l).mem_iff.1 hy))) (srt_srt l)
theorem ins_head {x : It} {s : List It} (h : Srt (x :: s)) : ins x s = x :: s :=
  ins_of_le (List.pairwise_cons.1 h).1 (List.pairwise_cons.1 h).2

set_option maxHeartbeats 1000000 in
theorem traces_long {w : World} {A : Option Addr} {n cap : Nat} (hn : 200 < n) :
    Calls Try.prog 6 #[.slice A n cap] w fun e w' => e = .returned (.bool true) ∧ Below w.heap.size w w' := by
  go_enter Try.func6, Try.ntmps6
  go_wp2_with fail
  refine (alive_any _).mono ?_
  rintro e w1 ⟨rfl, hb1⟩
  have HB := Lib.hid hb1
  clear hb1
  go_wp2
  go_ret
  exact ⟨rfl, HB.out⟩

set_option maxHeartbeats 2000000 in
theorem traces_any {w : World} {A : Option Addr} {l : List It} {cap : Nat} (hA : ItemsAt w A l) (hw : ∀ x ∈ l, Wf x) (hn : l.length ≤ 200) :
    Calls Try.prog 6 #[.slice A l.length cap] w fun e w' => e = .returned (.bool true) ∧ Below w.heap.size w w' := by
  have HA := Lib.hid hA
  have HW := Lib.hid hw
  clear hA hw
  go_enter Try.func6, Try.ntmps6
  go_wp2_with fail
  refine (alive_any _).mono ?_
  rintro e w1 ⟨rfl, hb1⟩
  have hs1 := hb1.size
  have HS1 : Hid (∀ t, Sys w.heap.size w [⟨w1.heap.size, 0, none, []⟩] [] [] (w1.alloc (.cells #[.slice none 0 0] t))) := fun t => (Sys.start (Nat.le_refl _) hb1).newPile t
  clear hb1
  generalize hN : l.length = n at *
  have HN := Lib.hid hN
  clear hN
  go_wp2
  go_loopw [27] (fun v wr => ∃ (k : Nat) (r : Option Nat), k ≤ n ∧ v = .int .i64 (k : Int) ∧ Sys w.heap.size w [⟨w1.heap.size, 0, r, srt (l.take k)⟩] [] [] wr) (fun v _ => n - (intOf v).toNat)
  case atStart => exact ⟨0, none, by omega, rfl, HS1.out _⟩
  case round =>
    obtain ⟨k, r, hk, rfl, hS⟩ := hrel
    have HS := Lib.hid hS
    clear hS
    by_cases hlt : k < n
    · obtain ⟨a, rfl, hab, c0, c1, c2⟩ := (HA.out.below HS.out.below (Nat.le_refl _)) k (by rw [HN.out]; exact hlt)
      clear hab
      have hkl : k < l.length := by rw [HN.out]; exact hlt
      have HP : Hid (Calls Try.prog 9 #[.pointer (some ⟨w1.heap.size, 0, none⟩), .agg #[.int .i64 (at_ l k).c, .int .i64 (at_ l k).t, .int .i64 (at_ l k).i]] wr fun e w' => e = .returned (.tuple #[]) ∧ ∃ r', Sys w.heap.size w [⟨w1.heap.size, 0, r', srt (l.take (k + 1))⟩] [] [] w') := by
        refine (push_s (HS.out.pile 0 _ rfl).1 (at_ l k) (by rw [srt_length]; simp; omega)).mono fun e w' hq => ⟨hq.1, ?_⟩
        obtain ⟨r', h1⟩ := HS.out.push (i := 0) rfl hq
        refine ⟨r', ?_⟩
        rw [take_snoc hkl, srt_snoc]
        exact h1
      clear hkl
      generalize at_ l k = x at *
      obtain ⟨x0, x1, x2⟩ := x
      simp only at *
      go_wp2_with (go_at_call 9; (with_reducible refine HP.out.mono ?_); rintro e w2 ⟨rfl, r', hq⟩; have HQ := Lib.hid hq; clear hq)
      go_roundw
      case rel => exact ⟨k + 1, r', by omega, by go_num, HQ.out⟩
      case measure => simp [intOf]; omega
    · obtain rfl : k = n := by omega
      have hS0 : Sys w.heap.size w [⟨w1.heap.size, 0, r, srt l⟩] [] [] wr := by
        have e : l.take k = l := List.take_of_length_le (by rw [HN.out]; exact Nat.le_refl _)
        have := HS.out
        rwa [e] at this
      have HS0 := Lib.hid hS0
      clear hS0 HS
      go_wp2_with fail
      refine (all_any (HS0.out.pile 0 _ rfl).1 (by rw [srt_length, HN.out]; omega)).mono ?_
      rintro e w3 hq3
      obtain ⟨v6, rfl, hS3⟩ := HS0.out.all (i := 0) rfl hq3
      obtain ⟨A6, cap6, rfl, _⟩ := hS3.cells (List.mem_singleton.2 rfl)
      have hF := ins_first HW.out
      have hsl : (srt l).length = k := by rw [srt_length, HN.out]
      have hss := srt_srt l
      generalize srt l = s at *
      have HF := Lib.hid hF
      have HL := Lib.hid hsl
      have HSS := Lib.hid hss
      rw [hsl] at hS3 ⊢
      have HS3 := Lib.hid hS3
      clear hS3 hq3 HS0 hF hss
      cases s with
      | nil =>
        obtain rfl : k = 0 := by simpa using hsl.symm
        clear hsl
        go_wp2_with fail
        refine (pop_nil (HS3.out.pile 0 _ rfl).1).mono ?_
        rintro e w4 ⟨rfl, hb4⟩
        have HS4 : Hid (Sys w.heap.size w [⟨w1.heap.size, 0, r, []⟩] [] [(.slice A6 0 cap6, [])] w4) := HS3.out.later hb4 (Nat.le_refl _)
        clear hb4
        have HX : Hid (∃ os, Sys w.heap.size w [⟨w1.heap.size, 0, r, []⟩] os [(.slice A6 0 cap6, [])] (w4.alloc (.cells #[.int .i64 0, .int .i64 0, .int .i64 0] 32))) := ⟨_, HS4.out.alloc0 _⟩
        obtain ⟨os, hx⟩ := HX.out
        clear HX HS4
        have HX := Lib.hid hx
        clear hx
        go_wp2_with fail
        obtain ⟨WX, hWX⟩ : ∃ WX, w4.alloc (.cells #[.int .i64 0, .int .i64 0, .int .i64 0] 32) = WX := ⟨_, rfl⟩
        have hz : w4.heap.size + 1 = WX.heap.size := by rw [← hWX]; simp
        rw [hWX] at HX ⊢
        rw [hz]
        refine (push_s ((HX.out.alloc _).pile 0 _ rfl).1 firstIt (by rw [HL.out]; omega)).mono ?_
        rintro e w5 hq5
        obtain ⟨rfl, _⟩ := id hq5
        obtain ⟨r5, hS5⟩ := (HX.out.alloc _).push (i := 0) rfl hq5
        simp only [HF.out, List.set_cons_zero] at hS5
        have HS5 := Lib.hid hS5
        clear hS5 hq5
        go_wp2_with fail
        refine (pop_s (HS5.out.pile 0 _ rfl).1 (by rw [HL.out]; omega)).mono ?_
        rintro e w6 hq6
        obtain ⟨rfl, _⟩ := id hq6
        have hS6 := HS5.out.pop (i := 0) rfl hq6
        simp only [List.set_cons_zero] at hS6
        have HS6 := Lib.hid hS6
        clear hS6 hq6
        go_wp2_with fail
        refine (all_any ((HS6.out.alloc _).pile 0 _ rfl).1 (by rw [HL.out]; omega)).mono ?_
        rintro e w7 hq7
        obtain ⟨v7, rfl, hS7⟩ := (HS6.out.alloc _).all (i := 0) rfl hq7
        clear hq7
        have HB7 := Lib.hid hS7.below
        have o1 : w7.heap[w6.heap.size]? = some (.cells #[.int .i64 (-9223372036854775808), .int .i64 (-9223372036854775808), .int .i64 (-9223372036854775808)] 32 (0, 0)) := (hS7.obj _ (List.mem_cons_self ..)).1
        have o2 : w7.heap[WX.heap.size]? = some (.cells #[.int .i64 (-9223372036854775808), .int .i64 (-9223372036854775808), .int .i64 (-9223372036854775808)] 32 (0, 0)) := (hS7.obj _ (List.mem_cons_of_mem _ (List.mem_cons_self ..))).1
        have hc7 := hS7.cells (List.mem_cons_self ..)
        have hc6 := hS7.cells (v := .slice A6 0 cap6) (l := []) (List.mem_cons_of_mem _ (List.mem_cons_self ..))
        dsimp only at hc7
        rw [HL.out] at hc7 hc6
        obtain ⟨A7, cap7, rfl, hc7⟩ := hc7
        obtain ⟨_, _, he6, hc6⟩ := hc6
        cases he6
        have HC7 := Lib.hid hc7
        have HC6 := Lib.hid hc6
        have y0 : w7.cell? ⟨w6.heap.size, 0, none⟩ = some (.int .i64 (-9223372036854775808)) := by rw [blk_cell o1]; rfl
        have y1 : w7.cell? ⟨w6.heap.size, 1, none⟩ = some (.int .i64 (-9223372036854775808)) := by rw [blk_cell o1]; rfl
        have y2 : w7.cell? ⟨w6.heap.size, 2, none⟩ = some (.int .i64 (-9223372036854775808)) := by rw [blk_cell o1]; rfl
        have z0 : w7.cell? ⟨WX.heap.size, 0, none⟩ = some (.int .i64 (-9223372036854775808)) := by rw [blk_cell o2]; rfl
        have z1 : w7.cell? ⟨WX.heap.size, 1, none⟩ = some (.int .i64 (-9223372036854775808)) := by rw [blk_cell o2]; rfl
        have z2 : w7.cell? ⟨WX.heap.size, 2, none⟩ = some (.int .i64 (-9223372036854775808)) := by rw [blk_cell o2]; rfl
        clear hS7 o1 o2 hc7 hc6 HS6 HS5
        go_wp2
        clear y0 y1 y2 z0 z1 z2
        go_loopw [80] (fun v wr => ∃ (i m : Nat), i ≤ 0 ∧ v = .int .i64 (i : Int) ∧ wr = w7.drewN m) (fun v _ => 0 - (intOf v).toNat)
        case atStart => exact ⟨0, 0, by omega, rfl, rfl⟩
        case round =>
          obtain ⟨i, m, hi, rfl, rfl⟩ := hrel
          by_cases hlt2 : i < 0
          · omega
          · go_wp2
            go_ret
            exact ⟨rfl, below_dn HB7.out m⟩
      | cons x t =>
        have hpos : 0 < k := by rw [← hsl]; simp
        have htl : t.length ≤ 9999 := by simp at hsl; omega
        clear hsl
        go_wp2_with fail
        refine (pop_s (HS3.out.pile 0 _ rfl).1 htl).mono ?_
        rintro e w4 hq4
        obtain ⟨rfl, _⟩ := id hq4
        have hS4 := HS3.out.pop (i := 0) rfl hq4
        simp only [List.set_cons_zero] at hS4
        have HS4 := Lib.hid (hS4.alloc (.cells #[.int .i64 x.c, .int .i64 x.t, .int .i64 x.i] 32))
        clear hS4 hq4
        go_wp2_with fail
        refine (push_s (HS4.out.pile 0 _ rfl).1 x (by show t.length ≤ 10000; omega)).mono ?_
        rintro e w4b hq4
        obtain ⟨rfl, _⟩ := id hq4
        obtain ⟨r4, hS4⟩ := HS4.out.push (i := 0) rfl hq4
        simp only [ins_head HSS.out, List.set_cons_zero] at hS4
        have HX : Hid (∃ os, Sys w.heap.size w [⟨w1.heap.size, 0, r4, x :: t⟩] os [(.slice A6 k cap6, x :: t)] w4b) := ⟨_, hS4⟩
        obtain ⟨os, hx⟩ := HX.out
        clear HX HS4 hS4 hq4
        have HX := Lib.hid hx
        clear hx
        go_wp2_with fail
        obtain ⟨WX, hWX⟩ : ∃ WX, WX = w4b := ⟨_, rfl⟩
        rw [← hWX] at HX ⊢
        clear hWX
        refine (push_s ((HX.out.alloc _).pile 0 _ rfl).1 firstIt (by rw [HL.out]; omega)).mono ?_
        rintro e w5 hq5
        obtain ⟨rfl, _⟩ := id hq5
        obtain ⟨r5, hS5⟩ := (HX.out.alloc _).push (i := 0) rfl hq5
        simp only [HF.out, List.set_cons_zero] at hS5
        have HS5 := Lib.hid hS5
        clear hS5 hq5
        go_wp2_with fail
        refine (pop_s (HS5.out.pile 0 _ rfl).1 (by rw [HL.out]; omega)).mono ?_
        rintro e w6 hq6
        obtain ⟨rfl, _⟩ := id hq6
        have hS6 := HS5.out.pop (i := 0) rfl hq6
        simp only [List.set_cons_zero] at hS6
        have HS6 := Lib.hid hS6
        clear hS6 hq6
        go_wp2_with fail
        refine (all_any ((HS6.out.alloc _).pile 0 _ rfl).1 (by rw [HL.out]; omega)).mono ?_
        rintro e w7 hq7
        obtain ⟨v7, rfl, hS7⟩ := (HS6.out.alloc _).all (i := 0) rfl hq7
        clear hq7
        have HB7 := Lib.hid hS7.below
        have o1 : w7.heap[w6.heap.size]? = some (.cells #[.int .i64 (-9223372036854775808), .int .i64 (-9223372036854775808), .int .i64 (-9223372036854775808)] 32 (0, 0)) := (hS7.obj _ (List.mem_cons_self ..)).1
        have o2 : w7.heap[WX.heap.size]? = some (.cells #[.int .i64 (-9223372036854775808), .int .i64 (-9223372036854775808), .int .i64 (-9223372036854775808)] 32 (0, 0)) := (hS7.obj _ (List.mem_cons_of_mem _ (List.mem_cons_self ..))).1
        have hc7 := hS7.cells (List.mem_cons_self ..)
        have hc6 := hS7.cells (v := .slice A6 k cap6) (l := x :: t) (List.mem_cons_of_mem _ (List.mem_cons_self ..))
        dsimp only at hc7
        rw [HL.out] at hc7 hc6
        obtain ⟨A7, cap7, rfl, hc7⟩ := hc7
        obtain ⟨_, _, he6, hc6⟩ := hc6
        cases he6
        have HC7 := Lib.hid hc7
        have HC6 := Lib.hid hc6
        have y0 : w7.cell? ⟨w6.heap.size, 0, none⟩ = some (.int .i64 (-9223372036854775808)) := by rw [blk_cell o1]; rfl
        have y1 : w7.cell? ⟨w6.heap.size, 1, none⟩ = some (.int .i64 (-9223372036854775808)) := by rw [blk_cell o1]; rfl
        have y2 : w7.cell? ⟨w6.heap.size, 2, none⟩ = some (.int .i64 (-9223372036854775808)) := by rw [blk_cell o1]; rfl
        have z0 : w7.cell? ⟨WX.heap.size, 0, none⟩ = some (.int .i64 (-9223372036854775808)) := by rw [blk_cell o2]; rfl
        have z1 : w7.cell? ⟨WX.heap.size, 1, none⟩ = some (.int .i64 (-9223372036854775808)) := by rw [blk_cell o2]; rfl
        have z2 : w7.cell? ⟨WX.heap.size, 2, none⟩ = some (.int .i64 (-9223372036854775808)) := by rw [blk_cell o2]; rfl
        clear hS7 o1 o2 hc7 hc6 HS6 HS5
        go_wp2
        clear y0 y1 y2 z0 z1 z2
        go_loopw [80] (fun v wr => ∃ (i m : Nat), i ≤ k ∧ v = .int .i64 (i : Int) ∧ wr = w7.drewN m) (fun v _ => k - (intOf v).toNat)
        case atStart => exact ⟨0, 0, by omega, rfl, rfl⟩
        case round =>
          obtain ⟨i, m, hi, rfl, rfl⟩ := hrel
          by_cases hlt2 : i < k
          · obtain ⟨g7, rfl, a0, a1, a2⟩ := HC7.out i hlt2
            obtain ⟨g6, rfl, b0, b1, b2⟩ := HC6.out i hlt2
            go_wp2
            go_quiet (fail)
            go_wp2
            exact ⟨⟨i + 1, m + nq, by omega, by go_num, rfl⟩, by simp [intOf]; omega⟩
          · go_wp2
            go_ret
            exact ⟨rfl, below_dn HB7.out m⟩
end Go.Proofs.Ytdhpphkkpjldfab
