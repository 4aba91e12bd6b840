/-
  The list without a robot's waiter, in memory.
-/
import Derived.Test.YtnecmlkljijofaaSp8
import Derived.Laws.AppendOwn
import Derived.Deep.AppendLies
namespace Go.Proofs.Ytnecmlkljijofaa
set_option maxRecDepth 100000
set_option linter.unusedSimpArgs false
open Go Go.RowKit Sp

/-- A list that is laid out: own memory, and nothing else that there was turned. -/
structure OwW (w : World) (l : List Wt) (v : Value) (W : World) : Prop where
  own : W.ownsRow w.heap.size 40 3 v l.length (csA l)
  kp : Still w W
theorem OwW.snoc {w W W2 : World} {l : List Wt} {v v' : Value} {x : Wt} {o : Obj} (h : OwW w l v W) (hg : (W.alloc o).grownBy W2 v.ownBlock) (ho : W2.ownsRow w.heap.size 40 3 v' (l.length + 1) (csA l ++ wc x)) : OwW w (l ++ [x]) v' W2 := by
  have e : csA (l ++ [x]) = csA l ++ wc x := by rw [csA_append]; simp [csA]
  have e2 : (l ++ [x]).length = l.length + 1 := by simp
  refine ⟨by rw [e, e2]; exact ho, (h.kp.alloc o).grown hg (fun k hk => .inr ?_)⟩
  rcases h.own.2 with ⟨rfl, _⟩ | ⟨g', cap, cur, rfl, hb, hgg, _⟩
  · cases hk
  · have : g' = k := by simpa [Value.ownBlock] using hk
    omega
theorem OwW.drewN {w W : World} {l : List Wt} {v : Value} (h : OwW w l v W) (n : Nat) : OwW w l v (W.drewN n) := ⟨h.own, h.kp.drewN n⟩
theorem OwW.drew {w W : World} {l : List Wt} {v : Value} (h : OwW w l v W) : OwW w l v W.drew := ⟨h.own, h.kp.drew⟩

set_option maxHeartbeats 2000000 in
theorem rest_any {w : World} {v : Value} {l : List Wt} {k : Nat} {r : Int} (hv : IsW w v l) (hl : l.length ≤ 8) (hk : w.cell? ⟨k, 0, none⟩ = some (.int .i64 r)) :
    Calls Try.prog 33 #[v, .pointer (some ⟨k, 0, none⟩)] w fun e w' => ∃ v', e = .returned v' ∧ IsW w' v' (rest l r) ∧ Still w w' := by
  obtain ⟨i0, hi, hz0, hz1, hz2⟩ := info_parts Try.infoWt3
  obtain ⟨P, hP⟩ : ∃ P : Ending → World → Prop, P = fun e w' => ∃ v', e = .returned v' ∧ IsW w' v' (rest l r) ∧ Still w w' := ⟨_, rfl⟩
  have HP : Hid (∀ v' w', OwW w (rest l r) v' w' → P (.returned v') w') := by rw [hP]; intro v' w' h; exact ⟨v', rfl, IsW.of_row h.own, h.kp⟩
  rw [← hP]
  clear hP
  obtain ⟨A, ca, rfl, hca⟩ := hv
  have HA : Hid (∀ wr, Still w wr → ∀ j, j < l.length → ∃ g, A = some ⟨g, 0, none⟩ ∧ wr.cell? ⟨g, j * 3, none⟩ = some (.int .i64 (l.getD j w0).r) ∧ wr.cell? ⟨g, j * 3 + 1, none⟩ = some (.int .u64 (l.getD j w0).s) ∧ wr.cell? ⟨g, j * 3 + 2, none⟩ = some (.int .i64 (l.getD j w0).p)) := by
    intro wr hk j hj
    obtain ⟨g, e, c0, c1, c2⟩ := hca j hj
    exact ⟨g, e, hk.cell c0 id, hk.cell c1 id, hk.cell c2 id⟩
  have HK : Hid (∀ wr, Still w wr → wr.cell? ⟨k, 0, none⟩ = some (.int .i64 r)) := fun wr h => h.cell hk id
  have HT : Hid (∀ j, j < l.length → rest (l.take (j + 1)) r = rest (l.take j) r ++ (if (l.getD j w0).r = r then [] else [l.getD j w0])) := fun j hj => rest_take hj r
  have HL : Hid (∀ j, (rest (l.take j) r).length ≤ 8) := by
    intro j
    have := rest_len (l.take j) r
    rw [List.length_take] at this
    omega
  have HW0 : Hid (OwW w [] (.slice none 0 0) w) := ⟨⟨by simp [csA], .inl ⟨rfl, rfl⟩⟩, Kept.refl _ _⟩
  have HFin : Hid (rest (l.take l.length) r = rest l r) := by show _ = _; rw [List.take_length]
  clear hca hk
  generalize l.length = n at *
  go_enter Try.func33, Try.ntmps33
  go_wp2
  go_loopw [8, 4] (fun u out wr => ∃ j : Nat, j ≤ n ∧ u = .int .i64 (j : Int) ∧ OwW w (rest (l.take j) r) out wr) (fun u _ _ => n - (intOf u).toNat)
  case atStart => exact ⟨0, Nat.zero_le _, rfl, HW0.out⟩
  case round =>
    obtain ⟨j, hj, rfl, ho⟩ := hrel
    by_cases hlt : j < n
    · obtain ⟨g, rfl, c0, c1, c2⟩ := HA.out wr ho.kp j hlt
      have ck := HK.out wr ho.kp
      have HO := Lib.hid ho
      have HTj := Lib.hid (HT.out j hlt)
      have HLj := Lib.hid (HL.out j)
      have j0 : (0 : Int) ≤ (j : Int) := by omega
      have j1 : (j : Int) < (n : Int) := by omega
      clear ho
      generalize l.getD j w0 = x at *
      obtain ⟨x0, x1, x2⟩ := x
      simp only at c0 c1 c2
      by_cases hx : x0 = r
      · have HR : Hid (∀ nq, OwW w (rest (l.take (j + 1)) r) u4 (wr.drewN nq)) := fun nq => by
          rw [HTj.out, if_pos hx, List.append_nil]; exact HO.out.drewN nq
        subst hx
        clear HTj HO
        go_wp2
        go_quiet (fail)
        go_wp2
        go_roundw
        case rel => exact ⟨j + 1, by omega, by go_num, HR.out nq⟩
        case measure => simp [intOf]; omega
      · have e1 : (x0 != r) = true := by simpa using hx
        have e2 : (x0 == r) = false := by simpa using hx
        have HR : Hid (∀ nq o v' W2, ((wr.drewN nq).alloc o).grownBy W2 u4.ownBlock → W2.ownsRow w.heap.size 40 3 v' ((rest (l.take j) r).length + 1) (csA (rest (l.take j) r) ++ [.int .i64 x0, .int .u64 x1, .int .i64 x2]) → OwW w (rest (l.take (j + 1)) r) v' W2) := fun nq o v' W2 h1 h2 => by
          rw [HTj.out, if_neg hx]
          exact (HO.out.drewN nq).snoc (x := ⟨x0, x1, x2⟩) h1 h2
        obtain ⟨L, hL⟩ : ∃ L, L = rest (l.take j) r := ⟨_, rfl⟩
        rw [← hL] at HR HLj
        have HO2 : Hid (∀ nq, (wr.drewN nq).ownsRow w.heap.size 40 3 u4 L.length (csA L)) := fun nq => by rw [hL]; exact HO.out.own
        have HZ : Hid (∀ nq, w.heap.size ≤ (wr.drewN nq).heap.size) := fun nq => HO.out.kp.size
        clear HTj HO hL
        obtain ⟨N, hN⟩ : ∃ N, N = L.length := ⟨_, rfl⟩
        rw [← hN] at HR HO2 HLj
        have hN8 : N ≤ 8 := HLj.out
        generalize csA L = xs at *
        clear hN HLj
        have HNe : Hid (∀ nq, ∀ j u, #[Value.int .i64 x0, .int .u64 x1, .int .i64 x2].toList[j]? = some u → ((wr.drewN nq).alloc (.cells #[.int .i64 x0, .int .u64 x1, .int .i64 x2] 40)).cell? ((⟨wr.heap.size, 0, none⟩ : Addr).add j) = some u) := fun nq => World.news_of_block (World.alloc_heap_new (wr.drewN nq) (.cells #[.int .i64 x0, .int .u64 x1, .int .i64 x2] 40))
        go_wp2
        go_quiet (fail)
        go_wp2_with (at_builtin; refine wpList_append_own _ rfl _ _ 45 rfl w.heap.size 40 i0 (.agg #[.int .i64 0, .int .u64 0, .int .i64 0]) 3 24 Try.underlying45 hi hz0 hz1 hz2 rfl (by decide) u4 N xs rfl ((HO2.out nq).alloc _) ⟨wr.heap.size, 0, none⟩ 1 1 [.int .i64 x0, .int .u64 x1, .int .i64 x2] rfl rfl (HNe.out nq) (by intro u hu; simp at hu; rcases hu with rfl | rfl | rfl <;> rfl) (by unfold maxLen; omega) (by omega) (by have := HZ.out nq; simp at this ⊢; omega) ?_; intro v' W2 hown' hgrow _; have HR2 := Lib.hid (HR.out nq _ v' W2 hgrow hown'); clear hown' hgrow)
        go_roundw
        case rel => exact ⟨j + 1, by omega, by go_num, HR2.out⟩
        case measure => simp [intOf]; omega
    · obtain rfl : j = n := by omega
      have HF := Lib.hid (HP.out u4 wr (by rw [← HFin.out]; exact ho))
      clear ho
      go_wp2
      exact HF.out
end Go.Proofs.Ytnecmlkljijofaa
