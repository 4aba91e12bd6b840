/-
  slices.Delete of messages, from the list's beginning.
-/
import Derived.Test.YtfgajjfcjlejmaaDoorLk6
import Derived.Shelf.RegionOpenPlain
import Derived.Deep.LoopGhost
import Derived.Deep.RegionLaw
import Derived.Lib.Walk
import Derived.Sort.WalkB12
import Derived.Laws.IdiomCopy
namespace Go.Proofs.YtfgajjfcjlejmaaDoor
set_option maxRecDepth 100000
set_option linter.unusedSimpArgs false
open Go Go.RowKit Wr
attribute [local go_sem] Oper.semAt_some

/-- Values laid into a block from a place on. -/
def layC (cur : Array Value) : Nat → List Value → Array Value
  | _, [] => cur
  | o, v :: r => layC (cur.setIfInBounds o v) (o + 1) r
theorem layC_size (vs : List Value) : ∀ (cur : Array Value) (o : Nat), (layC cur o vs).size = cur.size := by
  induction vs with
  | nil => intro cur o; rfl
  | cons v r ih => intro cur o; rw [layC, ih]; simp
theorem layC_list (vs : List Value) : ∀ (cur : Array Value) (o : Nat), o + vs.length ≤ cur.size → (layC cur o vs).toList = cur.toList.take o ++ vs ++ cur.toList.drop (o + vs.length) := by
  induction vs with
  | nil => intro cur o _; simp [layC]
  | cons v r ih =>
    intro cur o h
    simp only [List.length_cons] at h
    rw [layC, ih _ _ (by simp; omega), Array.toList_setIfInBounds]
    have h1 : (cur.toList.set o v).take (o + 1) = cur.toList.take o ++ [v] := by
      rw [List.take_set, List.take_add_one, List.getElem?_eq_getElem (by simp; omega)]
      simp only [Option.toList_some]
      rw [List.set_append_right _ _ (by simp; omega)]
      have : o - (List.take o cur.toList).length = 0 := by simp; omega
      rw [this]
      simp
    rw [h1, List.drop_set_of_lt (by omega)]
    simp only [List.length_cons, List.append_assoc, List.singleton_append]
    rw [show o + 1 + r.length = o + (r.length + 1) by omega]
theorem setCells_blk (vs : List Value) : ∀ (w : World) (g o : Nat) (cur : Array Value) (e : TypeId) (m : Nat × Nat), w.heap[g]? = some (.cells cur e m) → (w.setCells g o vs).heap[g]? = some (.cells (layC cur o vs) e m) := by
  induction vs with
  | nil => intro w g o cur e m h; exact h
  | cons v r ih => intro w g o cur e m h; exact ih _ g (o + 1) _ e m (blk_set h o v)
theorem setCells_kept (vs : List Value) : ∀ (w : World) (g o : Nat), Kept (fun k => k = g) w (w.setCells g o vs) := by
  induction vs with
  | nil => intro w g o; exact Kept.refl _ _
  | cons v r ih => intro w g o; exact (kO w g o v).trans (ih _ g (o + 1)) (fun _ _ h => h)


def zmL (n : Nat) : List Value := (Builtin.zeroCells zeroMsg.cells n).toList
theorem zmL_len (n : Nat) : (zmL n).length = n * 9 := by simp [zmL, Builtin.zeroCells, zeroMsg, Value.cells]
theorem zmL_one (n : Nat) : ∀ u ∈ zmL n, u.oneCell' = true := by
  intro u hu
  simp only [zmL, Builtin.zeroCells, zeroMsg, Value.cells] at hu
  rw [Array.mem_toList_iff, Array.mem_map] at hu
  obtain ⟨i, _, rfl⟩ := hu
  have h : i % 9 < 9 := Nat.mod_lt _ (by omega)
  have h9 : ∀ j, j < 9 → ((#[Value.int .i64 0, .int .i64 0, .int .u32 0, .int .u64 0, .int .i64 0, .int .i64 0, .int .i64 0, .int .i64 0, .slice none 0 0] : Array Value).getD j default).oneCell' = true := by decide
  have := h9 _ h
  simpa [Array.getD, h] using this
theorem clear_ms (w : World) (ty : TypeId) (b o n c : Nat) (hn : 0 < n) (hc : ∀ j, j < n * 9 → (w.cell? ⟨b, o + j, none⟩).isSome = true) (hf : ∀ j, j < n * 9 → w.frozen? ⟨b, o + j, none⟩ = false) :
    (Builtin.clear_ #[50] ty #[.slice (some ⟨b, o, none⟩) n c]).run Tryd.prog w = .ok (.tuple #[]) (w.setCells b o (zmL n)) := by
  have hst := run_storeCells_cells (P := Tryd.prog) b o (zmL n) 0 w (by rw [zmL_len]; simpa using hc) (by rw [zmL_len]; simpa using hf) (zmL_one n)
  simp only [Nat.add_zero] at hst
  have hz : ∀ w, (zeroValue 37).run Tryd.prog w = .ok zeroMsg w := fun _ => by kernel_rfl
  obtain ⟨m, rfl⟩ : ∃ m, n = m + 1 := ⟨n - 1, by omega⟩
  have hzc : (Builtin.zeroCells zeroMsg.cells (m + 1)).toList = zmL (m + 1) := rfl
  simp [Builtin.clear_, run_underlying Tryd.underlying50, hz, hzc, hst]

set_option maxHeartbeats 4000000 in
theorem delete0_any {w : World} {g cap d : Nat} {E : List En} (h : w.ownsRow 0 37 9 (.slice (some ⟨g, 0, none⟩) E.length cap) E.length (csM E)) (hd0 : 0 < d) (hd : d ≤ E.length) (hE : E.length ≤ 256) :
    Calls Tryd.prog 70 #[.slice (some ⟨g, 0, none⟩) E.length cap, .int .i64 0, .int .i64 (d : Nat)] w fun e w' => e = .returned (.slice (some ⟨g, 0, none⟩) (E.length - d) cap) ∧ Kept (fun k => k = g) w w' ∧ w'.ownsRow 0 37 9 (.slice (some ⟨g, 0, none⟩) (E.length - d) cap) (E.length - d) (csM (E.drop d)) := by
  obtain ⟨i0, hi0, hz0, hz1, hz2⟩ := info_parts Tryd.infoMsg
  rcases h.2 with ⟨h1, _⟩ | ⟨g', cap', cur, h1, _, hg, hle, hmx, hsz, htk⟩
  · cases h1
  injection h1 with e1 _ e3
  injection e1 with e1
  injection e1 with e1
  subst e1 e3
  obtain ⟨news, hnews⟩ : ∃ news, news = (csM E).drop (d * 9) := ⟨_, rfl⟩
  have hlen : news.length = (E.length - d) * 9 := by rw [hnews, List.length_drop, csM_length]; omega
  have hone : ∀ u ∈ news, u.oneCell' = true := by intro u hu; rw [hnews] at hu; exact csM_one u (List.mem_of_mem_drop hu)
  have hget : ∀ t u, news[t]? = some u → w.cell? ⟨g, d * 9 + t, none⟩ = some u := by
    intro t u hu
    rw [hnews, List.getElem?_drop] at hu
    have hlt := (List.getElem?_eq_some_iff.1 hu).1
    rw [csM_length] at hlt
    rw [h.cellAt _ hlt]; exact hu
  obtain ⟨A, hA, hsrc⟩ : ∃ A : Addr, (if cap = d then some (⟨g, 0, none⟩ : Addr) else some ⟨g, d * 9, none⟩) = some A ∧ Hid (∀ t u, news[t]? = some u → w.drew.cell? (A.add t) = some u) := by
    by_cases hc : cap = d
    · refine ⟨⟨g, 0, none⟩, by simp [hc], fun t u hu => ?_⟩
      have h0 : news.length = 0 := by rw [hlen]; omega
      rw [List.length_eq_zero_iff.1 h0] at hu
      simp at hu
    · refine ⟨⟨g, d * 9, none⟩, by simp [hc], fun t u hu => ?_⟩
      rw [Addr.add_lit]
      exact hget t u hu
  have hcells : ∀ j, j < cap * 9 → (w.cell? ⟨g, j, none⟩).isSome = true := by
    intro j hj
    rw [blk_cell hg]
    simp [hsz, hj]
  have s3 : Hid (∀ t, t < news.length → (w.drew.cell? ⟨g, 0 + 0 * 9 + t, none⟩).isSome = true ∧ w.drew.frozen? ⟨g, 0 + 0 * 9 + t, none⟩ = false) := by
    intro t ht
    rw [hlen] at ht
    exact ⟨hcells _ (by omega), blk_free hg _⟩
  obtain ⟨W1, hW1⟩ : ∃ W1, W1 = w.drew.setCells g (0 + 0 * 9) news := ⟨_, rfl⟩
  have hg1 : W1.heap[g]? = some (.cells (layC cur (0 + 0 * 9) news) 37 (0, 0)) := by rw [hW1]; exact setCells_blk news _ g _ cur _ _ hg
  have hcl : ∀ ty, (Builtin.clear_ #[50] ty #[.slice (some ⟨g, (E.length - d) * 9, none⟩) d (cap - (E.length - d))]).run Tryd.prog W1 = .ok (.tuple #[]) (W1.setCells g ((E.length - d) * 9) (zmL d)) := fun ty => by
    refine clear_ms W1 ty g _ _ _ hd0 (fun j hj => ?_) (fun j hj => blk_free hg1 _)
    rw [blk_cell hg1]
    have : (layC cur (0 + 0 * 9) news).size = cap * 9 := by rw [layC_size, hsz]
    rw [Array.getElem?_eq_getElem (by rw [this]; omega)]; rfl
  have HP : Hid (Kept (fun k => k = g) w (W1.setCells g ((E.length - d) * 9) (zmL d)) ∧ (W1.setCells g ((E.length - d) * 9) (zmL d)).ownsRow 0 37 9 (.slice (some ⟨g, 0, none⟩) (E.length - d) cap) (E.length - d) (csM (E.drop d))) := by
    have k1 : Kept (fun k => k = g) w W1 := by rw [hW1]; exact ((Kept.refl _ w).drew).trans (setCells_kept news _ g _) (fun _ _ h => h)
    refine ⟨k1.trans (setCells_kept (zmL d) _ g _) (fun _ _ h => h), by rw [csM_length, List.length_drop], .inr ⟨g, cap, _, rfl, Nat.zero_le _, setCells_blk (zmL d) W1 g _ _ _ _ hg1, by omega, hmx, by rw [layC_size, layC_size, hsz], ?_⟩⟩
    rw [layC_list _ _ _ (by rw [layC_size, hsz, zmL_len]; omega), layC_list _ _ _ (by rw [hsz, hlen]; omega)]
    have e1 : 0 + 0 * 9 + news.length = (E.length - d) * 9 := by rw [hlen]; omega
    rw [e1, List.take_append_of_le_length (by simp [hsz]; try omega), List.take_append_of_le_length (by simp [hsz, hlen]; try omega), List.take_of_length_le (by simp [hsz, hlen]; try omega), List.take_append_of_le_length (by simp [hsz, hlen]; try omega), List.take_of_length_le (by simp [hsz, hlen]; try omega)]
    simp only [Nat.zero_mul, Nat.add_zero, List.take_zero, List.nil_append]
    rw [hnews, csM_drop]
  have hdc : d ≤ cap := by omega
  have s1 := Lib.hid hlen
  have s2 := Lib.hid hone
  have HW := Lib.hid hW1
  clear hW1 hg1 hg htk hsz hget hcells hone hlen hnews h
  generalize csM (E.drop d) = ys at *
  generalize E.length = n at *
  obtain ⟨r, hr⟩ : ∃ r, r = n - d := ⟨_, rfl⟩
  rw [← hr] at hcl HP s1 ⊢
  have hcm : ¬ cap = r := by omega
  have hne : ¬ (0 : Int) = (d : Int) := by omega
  have hne2 : ((0 : Int) == (d : Int)) = false := by simpa using hne
  have hrn : r ≤ n := by omega
  have hnr : n - r = d := by omega
  obtain rfl : n = r + d := by omega
  have hd1 : (d : Int) ≤ (r : Int) + (d : Int) := by omega
  have hd2 : d ≤ r + d := by omega
  clear hr
  go_enter Tryd.func70, Tryd.ntmps70
  go_wp2
  go_region_law (refine step_append_room rfl (.tmp 22) (.tmp 25) 50 rfl 37 i0 9 Tryd.underlying50 hi0 hz1 g 0 0 cap (by simp [Act.eval, Act.put]) A r (cap - d) news (by simp [Act.eval, Act.put, hA]) s1.out hsrc.out s2.out (by omega) s3.out ?_; rw [← HW.out])
  go_wp2
  go_ret
  exact ⟨rfl, HP.out⟩
end Go.Proofs.YtfgajjfcjlejmaaDoor
