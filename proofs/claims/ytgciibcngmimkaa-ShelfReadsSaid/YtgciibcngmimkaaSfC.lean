/-
  shelf.Of.
-/
import Derived.Test.YtgciibcngmimkaaSfB
namespace Go.Proofs.Ytgciibcngmimkaa
set_option maxRecDepth 100000
set_option linter.unusedSimpArgs false
open Go Go.RowKit Sf
attribute [local go_sem] Oper.semAt_some

namespace Sf
/-- Of a kind. -/
def kdF (kd : Int) (e : Ent) : Bool := decide (((e.1 / 65536 : Nat) : Int) = kd)
theorem kd_rest {M pre : List Ent} {x : Ent} {kd : Int} (h : M.Pairwise (fun a b => a.1 < b.1)) (hp : pre ++ [x] <+: M) (hx : kd < ((x.1 / 65536 : Nat) : Int)) : (pre ++ [x]).filter (kdF kd) = M.filter (kdF kd) := by
  obtain ⟨t, rfl⟩ := hp
  rw [List.filter_append (l₂ := t), List.filter_eq_nil_iff (l := t) |>.2, List.append_nil]
  intro y hy
  have := (List.pairwise_append.1 h).2.2 x (by simp) y hy
  have : x.1 / 65536 ≤ y.1 / 65536 := Nat.div_le_div_right (by omega)
  simp [kdF]
  omega
end Sf
def OfQ (w : World) (M : List Ent) (kd : Int) (e : Ending) (w' : World) : Prop := ∃ v xs, e = .returned v ∧ xs.map (·.1) = M.filter (kdF kd) ∧ RcP w' w.heap.size v xs ∧ Below w.heap.size w w'
theorem heap3 (w : World) (o1 o2 o3 : Obj) : (((w.alloc o1).alloc o2).alloc o3).heap[w.heap.size]? = some o1 ∧ (((w.alloc o1).alloc o2).alloc o3).heap[w.heap.size + 1]? = some o2 ∧ (((w.alloc o1).alloc o2).alloc o3).heap[w.heap.size + 1 + 1]? = some o3 := by
  refine ⟨?_, ?_, ?_⟩
  · rw [Below.heap_alloc _ _ _ (by simp only [World.size_alloc]; omega), Below.heap_alloc _ _ _ (by simp only [World.size_alloc]; omega)]
    exact World.alloc_heap_new w _
  · rw [Below.heap_alloc _ _ _ (by simp only [World.size_alloc]; omega)]
    have := World.alloc_heap_new (w.alloc o1) o2
    rwa [World.size_alloc] at this
  · have := World.alloc_heap_new ((w.alloc o1).alloc o2) o3
    rwa [World.size_alloc, World.size_alloc] at this
set_option maxHeartbeats 4000000 in
theorem of_any {w : World} {p0 : Option Addr} {M : List Ent} (h : ShP w p0 M) (kd : Int) :
    Calls Try.prog 18 #[.pointer p0, .int .i64 kd] w (OfQ w M kd) := by
  obtain ⟨i0, hi, hz0, hz1, hz2⟩ := info_parts Try.infoRec3
  refine (callsIn_wide (n := 9)).1 ?_
  refine callsIn_of_wp_marks Try.func18 rfl trivial ?_ rfl
  simp only [Try.ntmps18, List.size_toArray, List.length_cons, List.length_nil, Nat.reduceAdd, Nat.reduceSub, Array.replicate_succ, Array.replicate_zero, List.push_toArray, List.append_toArray, List.nil_append, List.cons_append]
  have HH := Lib.hid h
  clear h
  gi_wp2_with fail
  refine wpIn_wide.2 (wp_scope_straight ((wpIn_wide (n := 9)).1 ?_))
  gi_wp2_with fail
  refine wpIn_label ?_
  gi_wp2_with fail
  refine ⟨trivial, (callsIn_wide.2 (told_any _ _)).mono ?_⟩
  rintro e W0 ⟨rfl, hW0⟩
  have hz : W0.heap.size = w.heap.size + 3 := by rw [hW0]; simp
  have hb0 : Below w.heap.size w W0 := by rw [hW0]; exact (((Below.refl _ w).alloc (Nat.le_refl _) _).alloc (by simp) _).alloc (by simp; omega) _
  obtain ⟨b1, b2, b3⟩ := heap3 w (.cells #[.int .i64 kd] 3) (.cells #[.slice none 0 0] 22) (.cells #[.pointer p0] 24)
  rw [← hW0] at b1 b2 b3
  have hsz : ((w.alloc (.cells #[.int .i64 kd] 3)).alloc (.cells #[.slice none 0 0] 22)).heap.size = w.heap.size + 1 + 1 := by simp
  rw [hsz]
  clear hW0 hsz
  obtain ⟨kb, hkb⟩ : ∃ kb, w.heap.size = kb := ⟨_, rfl⟩
  obtain ⟨q, hq⟩ : ∃ q, kb + 1 = q := ⟨_, rfl⟩
  rw [hkb] at b1 b2 b3
  rw [hq] at b2 b3
  obtain ⟨X, hX⟩ : ∃ X : Nat → Prop, X = fun k => k = q := ⟨_, rfl⟩
  have hTells := told_p (9 - 1) (by omega) HH.out hb0 b3 (X := X) (fun k hk => by rw [hX] at hk; omega) (fun k cur f hc e => by
    rw [hX] at e
    rw [e, b2] at hc
    injection hc with hc
    injection hc with _ h _
    exact absurd h (by decide))
  have hXq : X q := by rw [hX]
  have hOk := HH.out.ok
  have hM := hOk.len
  have hqw : w.heap.size ≤ q := by omega
  have hqF : q < W0.heap.size := by omega
  have hwF : w.heap.size ≤ W0.heap.size := by omega
  have hkF : kb < W0.heap.size := by omega
  have hkX : ¬ kb = q := by omega
  have hI0 : LsI w W0.heap.size q M (kdF kd) [] W0 ∧ W0.heap[kb]? = some (.cells #[.int .i64 kd] 3 (0, 0)) := ⟨⟨hb0, ⟨_, [], b2, ⟨World.ownsRow_nil _ _ _ _, fun x hx => by cases hx⟩, rfl⟩, Nat.le_refl _, List.nil_prefix⟩, b1⟩
  have hIF : OwnFrom W0.heap.size (fun pre W => LsI w W0.heap.size q M (kdF kd) pre W ∧ W.heap[kb]? = some (.cells #[.int .i64 kd] 3 (0, 0))) := by
    intro pre W W' row h hg hr
    exact ⟨LsI.from hwF hqF pre W W' row h.1 hg hr, (hg.block kb (blk_lt h.2) (fun e => by have := (hr kb e.symm).1; omega)).trans h.2⟩
  have hIT : ∀ (s : List (Ent × Value)) (A B : World), (LsI w W0.heap.size q M (kdF kd) s A ∧ A.heap[kb]? = some (.cells #[.int .i64 kd] 3 (0, 0))) → Kept (fun _ => False) A B → (LsI w W0.heap.size q M (kdF kd) s B ∧ B.heap[kb]? = some (.cells #[.int .i64 kd] 3 (0, 0))) := fun s A B h ht => ⟨h.1.take hwF hqF ht, (ht.block kb (blk_lt h.2) id).trans h.2⟩
  clear hX hb0
  gi_wp2_with fail
  try rw [hkb]
  try rw [hq]
  refine range_w (by omega) (gf := 36) (lb := #[.pointer (some ⟨q + 1, 0, none⟩)]) rfl (enters_of Try.func36 (by kernel_rfl) rfl)
    (encs := enR) (fun _ => rfl) hTells (Below.refl _ _)
    (fun A C ht => ⟨ht.size, fun k o _ ho hc => (ht.block k (blk_lt ho) id).trans ho⟩) (fun h k => h.trans k)
    (fun W l' o o' hl' h1 h2 => KpF.put W l' o o' hl' h1 h2)
    (fun pre W => LsI w W0.heap.size q M (kdF kd) pre W ∧ W.heap[kb]? = some (.cells #[.int .i64 kd] 3 (0, 0))) (fun c pre W => c = .exit 0 ∧ LsI w W0.heap.size q M (kdF kd) pre W ∧ W.heap[kb]? = some (.cells #[.int .i64 kd] 3 (0, 0)) ∧ (pre.map (·.1)).filter (kdF kd) = M.filter (kdF kd)) hIF (fun c xs A C row h hg hr => ⟨h.1, (hIF xs A C row ⟨h.2.1, h.2.2.1⟩ hg hr).1, (hIF xs A C row ⟨h.2.1, h.2.2.1⟩ hg hr).2, h.2.2.2⟩) hIT hI0
    (fun pre x a' W => ∃ bk, W0.heap.size ≤ bk ∧ W.heap[bk]? = some (.cells #[.int .i64 ((x.1.1 / 65536 : Nat) : Int), .int .i64 ((x.1.1 % 65536 : Nat) : Int), x.2] 32 (0, 0)) ∧ (pre.map (·.1) ++ [x.1] <+: M ∧ R8 W x.2 x.1.2) ∧ a' = { tmps := #[.pointer p0, .int .i64 kd, undef, .pointer (some ⟨kb, 0, none⟩), .slice none 0 0, .pointer (some ⟨q, 0, none⟩), .pointer (some ⟨bk, 0, none⟩), .pointer p0, .func (.func 36) #[] #[.pointer (some ⟨q + 1, 0, none⟩)], .agg #[.int .i64 ((x.1.1 / 65536 : Nat) : Int), .int .i64 ((x.1.1 % 65536 : Nat) : Int), x.2], undef, undef, undef, undef, undef, undef, undef, undef, undef, undef, undef, undef, undef, undef, undef], defers := [] })
    ?hAx ?assign ?body ?done ?stop
  case hAx =>
    rintro pre x a' _ W W' row ⟨bk, h1, h2, ⟨h3, h4⟩, h5⟩ hg hr
    refine ⟨bk, h1, (hg.block bk (blk_lt h2) (fun e => ?_)).trans h2, ⟨h3, R8.blocks (X := fun k => row = some k) h4 (fun k h1 h2 => hg.block k h1 (fun e => h2 e.symm)) (fun k cur f hc e => ?_)⟩, h5⟩
    · obtain ⟨_, o1, h4, h5⟩ := hr bk e.symm
      rw [h2] at h4
      cases h4
      cases h5
    · obtain ⟨_, o1, h4, h5⟩ := hr k e
      rw [hc] at h4
      cases h4
      cases h5
  case assign =>
    rintro l' pre ⟨⟨p, d⟩, v⟩ Wb W K hIb hI ⟨hp1, hp2, hp3, hp4⟩ hK
    dsimp only at hp1 hp2 hK
    obtain ⟨A, cap, rfl, _⟩ := row_bytes hp2
    have hs := hI.1.size
    have hT : Kept (fun _ => False) W (W.alloc (.cells #[.int .i64 ((p / 65536 : Nat) : Int), .int .i64 ((p % 65536 : Nat) : Int), .slice A d.length cap] 32)) := (Kept.refl _ W).alloc _
    have HK := hK { tmps := #[.pointer p0, .int .i64 kd, undef, .pointer (some ⟨kb, 0, none⟩), .slice none 0 0, .pointer (some ⟨q, 0, none⟩), .pointer (some ⟨W.heap.size, 0, none⟩), .pointer p0, .func (.func 36) #[] #[.pointer (some ⟨q + 1, 0, none⟩)], .agg #[.int .i64 ((p / 65536 : Nat) : Int), .int .i64 ((p % 65536 : Nat) : Int), .slice A d.length cap], undef, undef, undef, undef, undef, undef, undef, undef, undef, undef, undef, undef, undef, undef, undef], defers := [] } _ ⟨by simp, fun k o _ ho _ => (Below.heap_alloc _ _ _ (blk_lt ho)).trans ho⟩
      (KpF.of_kept hT hs (fun _ h => h.elim) (fun _ h => h.elim)) (hIT _ _ _ hI hT) ⟨W.heap.size, hs, World.alloc_heap_new W _, ⟨hp1, R8.kept hp2 hT (No8.none _)⟩, rfl⟩
    clear hK hI hIb hp1 hp2 hp3 hp4 hT
    dsimp only [enR]
    generalize ((p / 65536 : Nat) : Int) = pk at *
    generalize ((p % 65536 : Nat) : Int) = pn at *
    generalize d.length = L at *
    gi_wp2
    exact HK
  case body =>
    rintro l' pre x a' W hl' ⟨hI, hkbW⟩ ⟨bk, hbk, hbx, ⟨hp, hv⟩, rfl⟩
    obtain ⟨v1, xs, h1, h2, h3⟩ := hI.q
    have hWs := hI.size
    have hlen : xs.length ≤ 4096 := by
      have e := congrArg List.length h3
      rw [List.length_map] at e
      have := List.length_filter_le (kdF kd) (pre.map (·.1))
      have := hp.length_le
      simp only [List.length_append] at *
      omega
    have c5 : W.cell? ⟨q, 0, none⟩ = some v1 := by rw [blk_cell h1]; rfl
    have c6 : W.cell? ⟨kb, 0, none⟩ = some (.int .i64 kd) := by rw [blk_cell hkbW]; rfl
    have HN : Hid (((x.1.1 / 65536 : Nat) : Int) = kd → ∀ W2 v', (W.alloc (.cells #[.int .i64 ((x.1.1 / 65536 : Nat) : Int), .int .i64 ((x.1.1 % 65536 : Nat) : Int), x.2] 32)).grownBy W2 v1.ownBlock → W2.ownsRow W0.heap.size 32 3 v' (xs.length + 1) (csR xs ++ [.int .i64 ((x.1.1 / 65536 : Nat) : Int), .int .i64 ((x.1.1 % 65536 : Nat) : Int), x.2]) →
        (W2.cell? ⟨q, 0, none⟩ = some v1 ∧ W2.frozen? ⟨q, 0, none⟩ = false) ∧ ownPostG W0.heap.size (KpF W0.heap.size X) (fun pre W => LsI w W0.heap.size q M (kdF kd) pre W ∧ W.heap[kb]? = some (.cells #[.int .i64 kd] 3 (0, 0))) (fun c pre W => c = .exit 0 ∧ LsI w W0.heap.size q M (kdF kd) pre W ∧ W.heap[kb]? = some (.cells #[.int .i64 kd] 3 (0, 0)) ∧ (pre.map (·.1)).filter (kdF kd) = M.filter (kdF kd)) (pre ++ [x]) W .normal { tmps := #[], defers := [] } (W2.setCell ⟨q, 0, none⟩ v')) := by
      intro hx W2 v' hg ho
      obtain ⟨a1, a2, a3, a4⟩ := LsI.snoc (X := X) (a := { tmps := #[], defers := [] }) (Ix := fun _ _ _ => False) rfl hqw hqF hXq hI h1 h2 h3 hp (by simp only [kdF, decide_eq_true_eq]; exact hx) hv ((Below.refl _ _).alloc (Nat.le_refl _) _) hg ho
      refine ⟨a1, a2, a3, a4, ?_⟩
      obtain ⟨b1, b2, b3, b4, b5⟩ := var_snoc h1 h2.1 hqF ((Below.refl _ _).alloc (Nat.le_refl _) _) hg ho
      exact (b4.block kb (blk_lt hkbW) (by
        rintro (e | e)
        · exact hkX e
        · have := (b5 kb e).1; omega)).trans hkbW
    have HS : Hid (kd < ((x.1.1 / 65536 : Nat) : Int) → ∀ a, ownPostG W0.heap.size (KpF W0.heap.size X) (fun pre W => LsI w W0.heap.size q M (kdF kd) pre W ∧ W.heap[kb]? = some (.cells #[.int .i64 kd] 3 (0, 0))) (fun c pre W => c = .exit 0 ∧ LsI w W0.heap.size q M (kdF kd) pre W ∧ W.heap[kb]? = some (.cells #[.int .i64 kd] 3 (0, 0)) ∧ (pre.map (·.1)).filter (kdF kd) = M.filter (kdF kd)) (pre ++ [x]) W (.exit 0) a W) := by
      intro hx a
      refine ⟨KeepsFrom.refl _ _, rfl, hI.skip hp (by simp only [kdF, decide_eq_false_iff_not]; omega), hkbW, ?_⟩
      have : (pre ++ [x]).map (·.1) = pre.map (·.1) ++ [x.1] := by simp
      rw [this]
      exact kd_rest hOk.srt hp hx
    have HP : Hid (((x.1.1 / 65536 : Nat) : Int) < kd → ∀ a, ownPostG W0.heap.size (KpF W0.heap.size X) (fun pre W => LsI w W0.heap.size q M (kdF kd) pre W ∧ W.heap[kb]? = some (.cells #[.int .i64 kd] 3 (0, 0))) (fun c pre W => c = .exit 0 ∧ LsI w W0.heap.size q M (kdF kd) pre W ∧ W.heap[kb]? = some (.cells #[.int .i64 kd] 3 (0, 0)) ∧ (pre.map (·.1)).filter (kdF kd) = M.filter (kdF kd)) (pre ++ [x]) W .normal a W) :=
      fun hx a => ⟨KeepsFrom.refl _ _, KpF.refl _ _ _, hI.skip hp (by simp only [kdF, decide_eq_false_iff_not]; omega), hkbW⟩
    have HV := Lib.hid h2.1
    have HNe := Lib.hid (World.news_of_block (World.alloc_heap_new W (.cells #[.int .i64 ((x.1.1 / 65536 : Nat) : Int), .int .i64 ((x.1.1 % 65536 : Nat) : Int), x.2] 32)))
    have HWs := Lib.hid hWs
    have HL := Lib.hid hlen
    obtain ⟨⟨p, d⟩, v⟩ := x
    dsimp only at *
    obtain ⟨A, cap, rfl, _⟩ := row_bytes hv
    have q0 : W.cell? ⟨bk, 0, none⟩ = some (.int .i64 ((p / 65536 : Nat) : Int)) := by rw [blk_cell hbx]; rfl
    have q1 : W.cell? ⟨bk, 1, none⟩ = some (.int .i64 ((p % 65536 : Nat) : Int)) := by rw [blk_cell hbx]; rfl
    have q2 : W.cell? ⟨bk, 2, none⟩ = some (.slice A d.length cap) := by rw [blk_cell hbx]; rfl
    clear h1 h2 h3 hI hp hv hbx hTells hI0 hWs hlen hz b1 b2 b3 hkbW hIF hIT hkb hq
    generalize ((p / 65536 : Nat) : Int) = pk at *
    generalize ((p % 65536 : Nat) : Int) = pn at *
    generalize d.length = L at *
    generalize csR xs = ys at *
    generalize xs.length = N at *
    rcases Int.lt_trichotomy kd pk with hlt | heq | hgt
    · have HS2 := Lib.hid (HS.out hlt)
      have d1 : decide (kd < pk) = true := by simpa using hlt
      clear HN HP HS hlt
      gi_wp2
      exact HS2.out _
    · have HN2 := Lib.hid (HN.out heq.symm)
      have d1 : decide (kd < pk) = false := by rw [decide_eq_false_iff_not]; omega
      have d2 : (pk == kd) = true := by rw [heq]; simp
      clear HN HP HS heq
      gi_wp2_with (gi_at_builtin; refine wpListIn_append_own_at _ rfl _ _ 22 rfl W0.heap.size 32 i0 (.agg #[.int .i64 0, .int .i64 0, .slice none 0 0]) 3 40 Try.underlying22 hi hz0 hz1 hz2 rfl (by decide) v1 N ys rfl (HV.out.alloc _) ⟨W.heap.size, 0, none⟩ 1 1 _ rfl rfl HNe.out (by intro u hu; simp at hu; rcases hu with rfl | rfl | rfl <;> rfl) (by unfold maxLen; have := HL.out; omega) (by have := HL.out; omega) (by simp; have := HWs.out; omega) ?_; intro v' W2 hown' hgrow _ hat; obtain ⟨g', cap', rfl⟩ := ownsRow_succ hown'; obtain ⟨⟨hq1, hq2⟩, hq3⟩ := HN2.out _ _ hgrow hown'; have HZ := Lib.hid hq3; clear hown' hgrow hq3 hat)
      exact HZ.out
    · have HP2 := Lib.hid (HP.out hgt)
      have d1 : decide (kd < pk) = false := by rw [decide_eq_false_iff_not]; omega
      have d2 : (pk == kd) = false := by simp; omega
      clear HN HP HS hgt
      gi_wp2
      exact HP2.out _
  case done =>
    rintro D xs W hD hxs hI hK
    have hI2 := hIF xs W _ (some D) hI (grownBy_putObj' W D (.deferred none)) (fun r e => by cases e; exact ⟨hD, _, hK, rfl⟩)
    obtain ⟨v, ys, h1, h2, h3⟩ := hI.1.q
    have c0 : W.cell? ⟨q, 0, none⟩ = some v := by rw [blk_cell h1]; rfl
    have HQ : Hid (OfQ w M kd (.returned v) (W.putObj D (.deferred none))) := by
      obtain ⟨v2, ys2, h4, h5, h6⟩ := hI2.1.q
      have hsame : (W.putObj D (.deferred none)).heap[q]? = W.heap[q]? := World.putObj_heap_other (by omega)
      rw [hsame, h1] at h4
      have : v = v2 := by simpa using h4
      subst this
      exact ⟨v, ys2, rfl, by rw [h6, hxs], ⟨row_base h5.1 (by omega), h5.2⟩, hI2.1.below⟩
    clear hI hI2 hTells hI0 h1 h2 h3 hIF hIT
    gi_wp2
    rw [Exit.noGoto_ret]
    refine ⟨by simp, .inl ⟨_, _, rfl, run_takeDeferred hK, ?_⟩⟩
    refine ⟨_, ?_, HQ.out⟩
    exact (results_tmp (fn := Try.f18) (t := 4) rfl _ _ _)
  case stop =>
    rintro D c xs W hD ⟨rfl, hI, hkbW, hfil⟩ hK
    have hI2 := hIF xs W _ (some D) ⟨hI, hkbW⟩ (grownBy_putObj' W D (.deferred none)) (fun r e => by cases e; exact ⟨hD, _, hK, rfl⟩)
    obtain ⟨v, ys, h1, h2, h3⟩ := hI.q
    have c0 : W.cell? ⟨q, 0, none⟩ = some v := by rw [blk_cell h1]; rfl
    have HQ : Hid (OfQ w M kd (.returned v) (W.putObj D (.deferred none))) := by
      obtain ⟨v2, ys2, h4, h5, h6⟩ := hI2.1.q
      have hsame : (W.putObj D (.deferred none)).heap[q]? = W.heap[q]? := World.putObj_heap_other (by omega)
      rw [hsame, h1] at h4
      have : v = v2 := by simpa using h4
      subst this
      exact ⟨v, ys2, rfl, by rw [h6, hfil], ⟨row_base h5.1 (by omega), h5.2⟩, hI2.1.below⟩
    clear hI hI2 hTells hI0 h1 h2 h3 hIF hIT hfil hkbW
    gi_wp2
    rw [Exit.noGoto_ret]
    refine ⟨by simp, .inl ⟨_, _, rfl, run_takeDeferred hK, ?_⟩⟩
    refine ⟨_, ?_, HQ.out⟩
    exact (results_tmp (fn := Try.f18) (t := 4) rfl _ _ _)
end Go.Proofs.Ytgciibcngmimkaa
