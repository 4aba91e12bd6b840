/-
  The law PileSorts: its walk.
-/
import Derived.Test.YtdhpphkkpjldfabPSo3
import Derived.RegionTactic
import Derived.StillTailTactics
import Derived.Carry
namespace Go.Proofs.Ytdhpphkkpjldfab
set_option maxRecDepth 100000
open Go Go.RowKit Pq
open Go.Maps (Keyed IsMap)

set_option maxHeartbeats 1000000 in
theorem sorts_long {w : World} {A : Option Addr} {n cap : Nat} (hn : 200 < n) :
    Calls Try.prog 5 #[.slice A n cap] w fun e w' => e = .returned (.bool true) ∧ Below w.heap.size w w' := by
  go_enter Try.func5, Try.ntmps5
  go_wp2_with fail
  refine (alive_any _).mono ?_
  rintro e w1 ⟨rfl, hb1⟩
  have HB := Lib.hid hb1
  clear hb1
  go_wp2
  go_ret
  exact ⟨rfl, HB.out⟩

set_option maxHeartbeats 4000000 in
theorem sorts_any {w : World} {A : Option Addr} {l : List It} {cap : Nat} (hA : ItemsAt w A l) (hw : ∀ x ∈ l, Wi x) (hn : l.length ≤ 200) :
    Calls Try.prog 5 #[.slice A l.length cap] w fun e w' => e = .returned (.bool true) ∧ Below w.heap.size w w' := by
  have HA := Lib.hid hA
  have HW := Lib.hid hw
  clear hA hw
  have hmm := @run_makeMap Try.prog
  go_enter Try.func5, Try.ntmps5
  go_wp2_with fail
  refine (alive_any _).mono ?_
  rintro e w1 ⟨rfl, hb1⟩
  have hs1 := hb1.size
  have HS1 : Hid (∀ t t', SoR w w1.heap.size 0 l (((w1.alloc (.cells #[.slice none 0 0] t)).alloc (.cells #[.slice none 0 0] t')).alloc (.map #[] 0))) := fun t t' => SoR.start hb1 l t t'
  clear hb1
  generalize hN : l.length = n at *
  have HN := Lib.hid hN
  clear hN
  go_wp2
  go_loopw [32] (fun v wr => ∃ (k : Nat), k ≤ n ∧ v = .int .i64 (k : Int) ∧ SoR w w1.heap.size k l wr) (fun v _ => n - (intOf v).toNat)
  case atStart => exact ⟨0, by omega, rfl, HS1.out _ _⟩
  case round =>
    obtain ⟨k, hk, rfl, hS⟩ := hrel
    have HS := Lib.hid hS
    clear hS
    by_cases hlt : k < n
    · have hkl : k < l.length := by rw [HN.out]; exact hlt
      have hl2 : l.length ≤ 200 := by rw [HN.out]; exact hn
      obtain ⟨j, hj⟩ : ∃ j, j + k + 1 = n := ⟨n - 1 - k, by omega⟩
      have hjl : j < l.length := by rw [HN.out]; omega
      obtain ⟨a, rfl, hab, c0, c1, c2⟩ := (HA.out.below (show Below w.heap.size w wr by obtain ⟨ra, rb, o, hS, _⟩ := HS.out; exact hS.below) (Nat.le_refl _)) k hkl
      clear hab
      have HP := Lib.hid (HS.out.push hkl hl2)
      have HP2 : Hid (∀ W, SoA w w1.heap.size k l W → (W.cell? (a.add (j * 3)) = some (.int .i64 (at_ l j).c) ∧ W.cell? ⟨(a.add (j * 3)).block, (a.add (j * 3)).off + 1, none⟩ = some (.int .i64 (at_ l j).t) ∧ W.cell? ⟨(a.add (j * 3)).block, (a.add (j * 3)).off + 2, none⟩ = some (.int .i64 (at_ l j).i)) ∧
          Calls Try.prog 9 #[.pointer (some ⟨w1.heap.size + 1, 0, none⟩), .agg #[.int .i64 (at_ l j).c, .int .i64 (at_ l j).t, .int .i64 (at_ l j).i]] W fun e w' => e = .returned (.tuple #[]) ∧ SoB w w1.heap.size k l w') := by
        intro W hW
        refine ⟨?_, hW.push hkl hl2 (by rw [HN.out]; exact hj)⟩
        obtain ⟨ra, rb, o, hS, _⟩ := hW
        obtain ⟨a2, e2, _, d0, d1, d2⟩ := (HA.out.below hS.below (Nat.le_refl _)) j hjl
        cases e2
        exact ⟨d0, d1, d2⟩
      have HP3 : Hid (∀ W, SoB w w1.heap.size k l W → (W.cell? (a.add (k * 3)) = some (.int .i64 (at_ l k).c) ∧ W.cell? ⟨(a.add (k * 3)).block, (a.add (k * 3)).off + 1, none⟩ = some (.int .i64 (at_ l k).t) ∧ W.cell? ⟨(a.add (k * 3)).block, (a.add (k * 3)).off + 2, none⟩ = some (.int .i64 (at_ l k).i)) ∧
          ∃ (c : Int) (v0 : Value) (st : Int) (w5 w6 : World), 0 ≤ c ∧ c ≤ 200 ∧
      (Instr.lookup 50 (.map (some (w1.heap.size + 2))) (.agg #[.int .i64 (at_ l k).c, .int .i64 (at_ l k).t, .int .i64 (at_ l k).i]) false).run Try.prog W.drew = .ok (.int .i64 c) W.drew ∧
      (Instr.mapEntry 50 (.map (some (w1.heap.size + 2))) (.agg #[.int .i64 (at_ l k).c, .int .i64 (at_ l k).t, .int .i64 (at_ l k).i])).run Try.prog W.drew = .ok (.tuple #[v0, .int .i64 st]) w5 ∧
      (Instr.lookup 50 (.map (some (w1.heap.size + 2))) (.agg #[.int .i64 (at_ l k).c, .int .i64 (at_ l k).t, .int .i64 (at_ l k).i]) false).run Try.prog w5 = .ok (.int .i64 c) w5 ∧
      (Instr.entryStore 50 (.map (some (w1.heap.size + 2))) (.int .i64 st) (.int .i64 (c + 1))).run Try.prog w5 = .ok () w6 ∧ SoR w w1.heap.size (k + 1) l w6) := by
        intro W hW
        refine ⟨?_, hW.tally hkl hl2 HW.out⟩
        obtain ⟨ra, rb, o, hS, _⟩ := hW
        obtain ⟨a2, e2, _, d0, d1, d2⟩ := (HA.out.below hS.below (Nat.le_refl _)) k hkl
        cases e2
        exact ⟨d0, d1, d2⟩
      clear hkl hl2 hjl
      generalize at_ l k = x at *
      generalize at_ l j = y at *
      go_wp2_with fail
      refine HP.out.mono ?_
      rintro e w2 ⟨rfl, hq2⟩
      obtain ⟨⟨d0, d1, d2⟩, hq3⟩ := HP2.out _ hq2
      have HQ3 := Lib.hid hq3
      clear hq2 hq3 HP HP2 c0 c1 c2
      have ej : (n : Int) - 1 - (k : Int) = (j : Int) := by omega
      go_wp2_with fail
      refine HQ3.out.mono ?_
      rintro e w3 ⟨rfl, hq⟩
      clear d0 d1 d2 HQ3 ej
      obtain ⟨⟨d0, d1, d2⟩, c, v0, st, w5, w6, hc0, hc1, e1, e2, e3, e4, hR⟩ := HP3.out _ hq
      have HR := Lib.hid hR
      clear hq HP3 hR
      go_wp2_with fail
      go_region
      all_goals
        go_wp2
        exact ⟨⟨k + 1, by omega, by go_num, HR.out⟩, by simp [intOf]; omega⟩
    · obtain rfl : k = n := by omega
      have hS2 : So2 w w1.heap.size wr.heap.size k 0 (wr.alloc (objOf ⟨0, 0, 0⟩)) := by
        have := SoR.done (l := l) (by rw [HN.out]; exact HS.out) (by rw [HN.out]; exact hn) HW.out
        rwa [HN.out] at this
      have HS2 := Lib.hid hS2
      clear hS2 HS HA HN HW hlt hk
      go_wp2
      generalize wr.heap.size = q at *
      go_loopw [64] (fun v wr => ∃ (i : Nat), i ≤ k ∧ v = .int .i64 (i : Int) ∧ So2 w w1.heap.size q k i wr) (fun v _ => k - (intOf v).toNat)
      case atStart => exact ⟨0, by omega, rfl, HS2.out⟩
      case round =>
        obtain ⟨i, hi, rfl, hR⟩ := hrel
        clear HS2
        by_cases hlt : i < k
        · obtain ⟨ra, rb, o, s, last, hS, hT, hl, hs, hla, hw, hB, hq, hne, hn2⟩ := hR
          cases s with
          | nil => exfalso; simp at hl; omega
          | cons x s =>
            have hsl : s.length ≤ 9999 := by simp at hl; omega
            have hl2 : s.length + 1 = k - i := by simpa using hl
            have HT := Lib.hid hT
            have HSR := Lib.hid hs
            have HLA := Lib.hid hla
            have HWI := Lib.hid hw
            have HL2 := Lib.hid hl2
            have b1 := blk_lt (hS.obj (w1.heap.size + 2, o) (by simp)).1
            have b2 := blk_lt (hS.obj (q, objOf last) (by simp)).1
            simp only at b1 b2
            clear hT hs hla hw hl hl2
            go_wp2_with fail
            refine (pop_s (hS.pile 1 _ rfl).1 hsl).mono ?_
            rintro e wa hqa
            obtain ⟨rfl, _⟩ := id hqa
            have hSa := hS.pop (i := 1) rfl hqa
            have b3 : wr.heap.size ≤ wa.heap.size := hqa.2.2.kept.size
            have hSa := hSa.alloc (objOf x)
            have HSa := Lib.hid hSa
            clear hqa hSa hS
            go_wp2_with fail
            refine (pop_s (HSa.out.pile 0 _ rfl).1 hsl).mono ?_
            rintro e wb hqb
            obtain ⟨rfl, _⟩ := id hqb
            have hSb := (HSa.out.pop (i := 0) rfl hqb).alloc (objOf x)
            have h4 : So4 w w1.heap.size q k i x s last wa.heap.size wb.heap.size (wb.alloc (objOf x)) :=
              ⟨ra, rb, o, hSb, HT.out, HL2.out, HSR.out, fun h => HLA.out h x (List.mem_cons_self ..), HWI.out, hB, hq, hne, hn2, by omega, by omega⟩
            have H4 := Lib.hid h4
            have hpb : wa.heap.size ≤ wb.heap.size := by have := hqb.2.2.kept.size; simp at this; omega
            obtain ⟨l1, l2, l3⟩ := h4.lies
            obtain ⟨x0, x1, x2, _⟩ := cells_of l1
            obtain ⟨y0, y1, y2, _⟩ := cells_of l2
            obtain ⟨z0, z1, z2, _⟩ := cells_of l3
            clear l1 l2 l3 h4 hSb hqb HSa HT HSR HL2 hsl b1 b2 b3
            generalize wa.heap.size = pa at *
            obtain ⟨W1, hW1⟩ : ∃ W, wb.alloc (objOf x) = W := ⟨_, rfl⟩
            have hW1' : wb.alloc (.cells #[.int .i64 x.c, .int .i64 x.t, .int .i64 x.i] 32) = W1 := hW1
            rw [hW1] at H4 x0 x1 x2 y0 y1 y2 z0 z1 z2
            by_cases hi0 : 0 < i
            · have hle : lt x last = false := HLA.out hi0 x (List.mem_cons_self ..)
              go_wp2_with fail
              refine (aheadr_any x last _).mono ?_
              rintro e wc ⟨rfl, hbc⟩
              rw [hle]
              have h4 := H4.out.later hbc (Nat.le_refl _)
              clear H4 hbc x0 x1 x2 y0 y1 y2 z0 z1 z2
              obtain ⟨c, v0, st, w5, w6, hc0, hc1, e1, e2, e3, e4, f1, f2, hR⟩ := h4.tally hlt
              obtain ⟨x0, x1, x2, _⟩ := cells_of h4.lies.1
              obtain ⟨y0, y1, y2, _⟩ := cells_of f1
              obtain ⟨_, _, _, zf⟩ := cells_of f2
              obtain ⟨z0, z1, z2, _⟩ := cells_of f2
              have HR := Lib.hid hR
              clear hR h4 f1 f2
              go_wp2_with fail
              go_region
              all_goals
                go_wp2
                exact ⟨⟨i + 1, by omega, by go_num, HR.out⟩, by simp [intOf]; omega⟩
            · obtain rfl : i = 0 := by omega
              have h4 := H4.out
              obtain ⟨c, v0, st, w5, w6, hc0, hc1, e1, e2, e3, e4, f1, f2, hR⟩ := h4.tally hlt
              obtain ⟨x0', x1', x2', _⟩ := cells_of f1
              obtain ⟨_, _, _, zf⟩ := cells_of f2
              obtain ⟨z0', z1', z2', _⟩ := cells_of f2
              have HR := Lib.hid hR
              clear hR h4 f1 f2 H4
              go_wp2_with fail
              go_region
              all_goals
                go_wp2
                exact ⟨⟨1, by omega, by go_num, HR.out⟩, by simp [intOf]; omega⟩
        · obtain rfl : i = k := by omega
          obtain ⟨⟨ra, rb, hS⟩, D, N, hO, hz⟩ := hR.done
          clear hR hlt hi
          obtain ⟨W0, hW0⟩ : ∃ W, W = wr := ⟨_, rfl⟩
          rw [← hW0] at hS hO ⊢
          clear hW0
          go_wp2_with (first
            | (at_range; refine wpList_range_own _ rfl _ 50 rfl 32 3 itemKeyed Try.underlying50 _ (w1.heap.size + 2) N D rfl hO ?_; intro w0 hrg0 hg0 hs0)
            | go_in)
          go_frame
          go_loopw [] (fun wr => ∃ (left : Lit → Bool) (cnt : Nat), wr.ranges Try.prog 32 (plainElem Try.prog 3) (w1.heap.size + 2) W0.heap.size N D left cnt ∧ Kept (fun _ => False) W0 wr) (fun wr => wr.rangeLeft (w1.heap.size + 2) W0.heap.size)
          case atStart => exact ⟨_, _, hrg0, (Kept.refl _ _).grown hg0 (fun k e => by cases e)⟩
          case round =>
            obtain ⟨left, cnt, hrg, hK⟩ := hrel
            go_wp2_with (first
              | (at_next; refine wpList_next_ranges _ rfl _ rfl 32 itemKeyed (plainElem Try.prog 3) id (Value.int .i64) (fun key _ _ => ⟨key, rfl⟩) (fun v y h => by obtain ⟨c, rfl, _⟩ := plainElem_int_inv Try.underlying3 h; exact ⟨c, rfl⟩) (w1.heap.size + 2) W0.heap.size N _ _ _ rfl hrg ?_ ?_)
              | go_in)
            · intro hc0 hl0
              have HS := Lib.hid (hS.grow hK)
              clear hS hK hrg hO hrg0 hg0
              go_wp2_with fail
              refine (len_s (HS.out.pile 1 _ rfl).1).mono ?_
              rintro e wa ⟨rfl, rfl⟩
              go_wp2_with fail
              refine (len_s (HS.out.pile 0 _ rfl).1).mono ?_
              rintro e wa ⟨rfl, rfl⟩
              go_wp2
              go_ret
              exact ⟨rfl, HS.out.below⟩
            · intro x c kl y yp w2 cnt1 hkey hlx hv hat hrg1 hlt hg1 hs1 hen
              obtain ⟨c', ec, ey, _⟩ := plainElem_int_inv Try.underlying3 hv
              obtain ⟨rfl, rfl⟩ := Prod.mk.inj ey
              have h0 := hat (.lit (.int .i64 0))
              rw [hz kl] at h0
              obtain rfl : c' = 0 := by simpa using h0.symm
              cases ec
              go_wp2
              go_roundw
              case rel => exact ⟨_, cnt1, hrg1, hK.grown hg1 (fun k e => .inr (by cases e; exact Nat.le_refl _))⟩
              case measure => rw [hrg1.left_eq, hrg.left_eq]; exact hlt
end Go.Proofs.Ytdhpphkkpjldfab
