/-
  slices.Delete of packets; a packet is taken out of a bag.
-/
import Derived.Test.YtinihggcibghaaaB2
import Derived.Test.YtinihggcibghaaaB3
import Derived.Shelf.RegionOpenPlain
import Derived.Deep.LoopGhost
import Derived.Deep.RegionLaw
import Derived.Lib.Walk
import Derived.Sort.WalkB12
namespace Go.Proofs.Ytinihggcibghaaa
set_option maxRecDepth 100000
set_option linter.unusedSimpArgs false
open Go Go.RowKit Bg
attribute [local go_sem] Oper.semAt_some

/-- Values laid into a block from a place on. -/
def layC (cur : Array Value) : Nat → List Value → Array Value
  | _, [] => cur
  | o, v :: r => layC (cur.setIfInBounds o v) (o + 1) r
theorem layC_size (vs : List Value) : ∀ (cur : Array Value) (o : Nat), (layC cur o vs).size = cur.size := by
  induction vs with
  | nil => intro cur o; rfl
  | cons v r ih => intro cur o; rw [layC, ih]; simp
theorem layC_list (vs : List Value) : ∀ (cur : Array Value) (o : Nat), o + vs.length ≤ cur.size → (layC cur o vs).toList = cur.toList.take o ++ vs ++ cur.toList.drop (o + vs.length) := by
  induction vs with
  | nil => intro cur o _; simp [layC]
  | cons v r ih =>
    intro cur o h
    simp only [List.length_cons] at h
    rw [layC, ih _ _ (by simp; omega), Array.toList_setIfInBounds]
    have h1 : (cur.toList.set o v).take (o + 1) = cur.toList.take o ++ [v] := by
      rw [List.take_set, List.take_add_one, List.getElem?_eq_getElem (by simp; omega)]
      simp only [Option.toList_some]
      rw [List.set_append_right _ _ (by simp; omega)]
      have : o - (List.take o cur.toList).length = 0 := by simp; omega
      rw [this]
      simp
    rw [h1, List.drop_set_of_lt (by omega)]
    simp only [List.length_cons, List.append_assoc, List.singleton_append]
    rw [show o + 1 + r.length = o + (r.length + 1) by omega]
theorem setCells_blk (vs : List Value) : ∀ (w : World) (g o : Nat) (cur : Array Value) (e : TypeId) (m : Nat × Nat), w.heap[g]? = some (.cells cur e m) → (w.setCells g o vs).heap[g]? = some (.cells (layC cur o vs) e m) := by
  induction vs with
  | nil => intro w g o cur e m h; exact h
  | cons v r ih => intro w g o cur e m h; exact ih _ g (o + 1) _ e m (blk_set h o v)
theorem setCells_kept (vs : List Value) : ∀ (w : World) (g o : Nat), Kept (fun k => k = g) w (w.setCells g o vs) := by
  induction vs with
  | nil => intro w g o; exact Kept.refl _ _
  | cons v r ih => intro w g o; exact (setO w g o v).trans (ih _ g (o + 1)) (fun _ _ h => h)

def zeroFl : List Value := [.int .i64 0, .int .i64 0, .int .i64 0, .slice none 0 0, .bool false]
theorem clear_fl (w : World) (ty : TypeId) (b o c : Nat) (hc : ∀ j, j < 5 → (w.cell? ⟨b, o + j, none⟩).isSome = true) (hf : ∀ j, j < 5 → w.frozen? ⟨b, o + j, none⟩ = false) :
    (Builtin.clear_ #[25] ty #[.slice (some ⟨b, o, none⟩) 1 c]).run Try.prog w = .ok (.tuple #[]) (w.setCells b o zeroFl) := by
  have hst := run_storeCells_cells (P := Try.prog) b o zeroFl 0 w (by simpa [zeroFl] using hc) (by simpa [zeroFl] using hf) (by intro v hv; simp [zeroFl] at hv; rcases hv with rfl | rfl | rfl | rfl <;> rfl)
  simp only [Nat.add_zero] at hst
  have hz : ∀ w, (zeroValue 38).run Try.prog w = .ok (.agg zeroFl.toArray) w := fun _ => by kernel_rfl
  have hzc : (Builtin.zeroCells (Value.agg zeroFl.toArray).cells 1).toList = zeroFl := by kernel_rfl
  simp [Builtin.clear_, run_underlying Try.underlying25, hz, hzc, hst]

set_option maxHeartbeats 4000000 in
theorem delete_any {w : World} {g cap i : Nat} {E : List Ent} (h : w.ownsRow 0 38 5 (.slice (some ⟨g, 0, none⟩) E.length cap) E.length (csE E)) (hi : i < E.length) (hE : E.length ≤ 256) :
    Calls Try.prog 51 #[.slice (some ⟨g, 0, none⟩) E.length cap, .int .i64 (i : Nat), .int .i64 ((i : Int) + 1)] w fun e w' => e = .returned (.slice (some ⟨g, 0, none⟩) (E.length - 1) cap) ∧ Kept (fun k => k = g) w w' ∧ w'.ownsRow 0 38 5 (.slice (some ⟨g, 0, none⟩) (E.length - 1) cap) (E.length - 1) (csE (E.eraseIdx i)) := by
  obtain ⟨i0, hi0, hz0, hz1, hz2⟩ := info_parts Try.infoFl
  rcases h.2 with ⟨h1, _⟩ | ⟨g', cap', cur, h1, _, hg, hle, hmx, hsz, htk⟩
  · cases h1
  injection h1 with e1 _ e3
  injection e1 with e1
  injection e1 with e1
  subst e1 e3
  obtain ⟨news, hnews⟩ : ∃ news, news = (csE E).drop ((i + 1) * 5) := ⟨_, rfl⟩
  have hlen : news.length = (E.length - (i + 1)) * 5 := by rw [hnews, List.length_drop, csE_length]; omega
  have hone : ∀ u ∈ news, u.oneCell' = true := by intro u hu; rw [hnews] at hu; exact csE_one u (List.mem_of_mem_drop hu)
  have hget : ∀ t u, news[t]? = some u → w.cell? ⟨g, (i + 1) * 5 + t, none⟩ = some u := by
    intro t u hu
    rw [hnews, List.getElem?_drop] at hu
    have hlt := (List.getElem?_eq_some_iff.1 hu).1
    rw [csE_length] at hlt
    rw [h.cellAt _ hlt]; exact hu
  obtain ⟨A, hA, hsrc⟩ : ∃ A : Addr, (if cap = i + 1 then some (⟨g, 0, none⟩ : Addr) else some ⟨g, (i + 1) * 5, none⟩) = some A ∧ Hid (∀ t u, news[t]? = some u → w.drew.cell? (A.add t) = some u) := by
    by_cases hc : cap = i + 1
    · refine ⟨⟨g, 0, none⟩, by simp [hc], fun t u hu => ?_⟩
      have h0 : news.length = 0 := by rw [hlen]; omega
      rw [List.length_eq_zero_iff.1 h0] at hu
      simp at hu
    · refine ⟨⟨g, (i + 1) * 5, none⟩, by simp [hc], fun t u hu => ?_⟩
      rw [Addr.add_lit]
      exact hget t u hu
  have hcells : ∀ j, j < cap * 5 → (w.cell? ⟨g, j, none⟩).isSome = true := by
    intro j hj
    rw [blk_cell hg]
    simp [hsz, hj]
  have s3 : Hid (∀ t, t < news.length → (w.drew.cell? ⟨g, 0 + i * 5 + t, none⟩).isSome = true ∧ w.drew.frozen? ⟨g, 0 + i * 5 + t, none⟩ = false) := by
    intro t ht
    rw [hlen] at ht
    exact ⟨hcells _ (by omega), blk_free hg _⟩
  obtain ⟨W1, hW1⟩ : ∃ W1, W1 = w.drew.setCells g (0 + i * 5) news := ⟨_, rfl⟩
  have hg1 : W1.heap[g]? = some (.cells (layC cur (0 + i * 5) news) 38 (0, 0)) := by rw [hW1]; exact setCells_blk news _ g _ cur _ _ hg
  have hcl : ∀ ty, (Builtin.clear_ #[25] ty #[.slice (some ⟨g, (E.length - 1) * 5, none⟩) 1 (cap - (E.length - 1))]).run Try.prog W1 = .ok (.tuple #[]) (W1.setCells g ((E.length - 1) * 5) zeroFl) := fun ty => by
    refine clear_fl W1 ty g _ _ (fun j hj => ?_) (fun j hj => blk_free hg1 _)
    rw [blk_cell hg1]
    have : (layC cur (0 + i * 5) news).size = cap * 5 := by rw [layC_size, hsz]
    rw [Array.getElem?_eq_getElem (by rw [this]; omega)]; rfl
  have HP : Hid (Kept (fun k => k = g) w (W1.setCells g ((E.length - 1) * 5) zeroFl) ∧ (W1.setCells g ((E.length - 1) * 5) zeroFl).ownsRow 0 38 5 (.slice (some ⟨g, 0, none⟩) (E.length - 1) cap) (E.length - 1) (csE (E.eraseIdx i))) := by
    have k1 : Kept (fun k => k = g) w W1 := by rw [hW1]; exact ((Kept.refl _ w).drew).trans (setCells_kept news _ g _) (fun _ _ h => h)
    refine ⟨k1.trans (setCells_kept zeroFl _ g _) (fun _ _ h => h), by rw [csE_length, List.length_eraseIdx, if_pos hi], .inr ⟨g, cap, _, rfl, Nat.zero_le _, setCells_blk zeroFl W1 g _ _ _ _ hg1, by omega, hmx, by rw [layC_size, layC_size, hsz], ?_⟩⟩
    rw [layC_list _ _ _ (by rw [layC_size, hsz]; simp [zeroFl]; omega), layC_list _ _ _ (by rw [hsz, hlen]; omega)]
    have e1 : 0 + i * 5 + news.length = (E.length - 1) * 5 := by rw [hlen]; omega
    rw [e1, List.take_append_of_le_length (by simp [hsz]; omega), List.take_append_of_le_length (by simp [hsz, hlen]; omega), List.take_of_length_le (by simp [hsz, hlen]; omega), List.take_append_of_le_length (by simp [hsz, hlen]; omega), List.take_of_length_le (by simp [hsz, hlen]; omega)]
    rw [List.eraseIdx_eq_take_drop_succ, csE_append, ← csE_take, ← csE_drop, hnews, ← htk, List.take_take, Nat.zero_add, Nat.min_eq_left (by omega)]
  have hic : i ≤ cap := by omega
  have hjc : i + 1 ≤ cap := by omega
  have s1 := Lib.hid hlen
  have s2 := Lib.hid hone
  have HW := Lib.hid hW1
  clear hW1 hg1 hg htk hsz hget hcells hone hlen hnews h
  generalize csE (E.eraseIdx i) = ys at *
  generalize E.length = n at *
  obtain ⟨m, rfl⟩ : ∃ m, n = m + 1 := ⟨n - 1, by omega⟩
  simp only [Nat.add_sub_cancel] at hcl HP ⊢
  have hcm : ¬ cap = m := by omega
  have hm0 : (m : Int) ≤ (m : Int) + 1 := by omega
  go_enter Try.func51, Try.ntmps51
  go_wp2
  have him : i ≤ m := by omega
  have hj0 : (0 : Int) ≤ (i : Int) + 1 := by omega
  have hmi : i + (m - i) = m := by omega
  rw [Nat.add_sub_add_right] at s1
  go_region_law (refine step_append_room rfl (.tmp 22) (.tmp 25) 25 rfl 38 i0 5 Try.underlying25 hi0 hz1 g 0 i cap (by simp [Act.eval, Act.put]) A (m - i) (cap - (i + 1)) news (by simp [Act.eval, Act.put, hA]) s1.out hsrc.out s2.out (by omega) s3.out ?_; rw [← HW.out])
  go_wp2
  go_ret
  exact ⟨rfl, HP.out⟩
end Go.Proofs.Ytinihggcibghaaa
