/-
  route.begin.
-/
import Derived.Test.YtkfijjjnidiejaaDoorLk3
namespace Go.Proofs.YtkfijjjnidiejaaDoor
set_option maxRecDepth 100000
open Go Go.RowKit Rq

/-- What a search stands on, cells met. -/
structure SeH (E : Env) (M : List (Nat × Nat)) (w : World) : Prop where
  obj : ObjAt E w
  em : EM E.bm E.gm E.cm E.R E.C E.ms w
  map : MapM w E.m M
  fr : E.fr < E.N
  to_ : E.to_ < E.N
  n1 : E.bm ≠ E.bs
  n2 : E.bm ≠ E.bb
  n3 : E.bm ≠ E.m
  n4 : E.m ≠ E.bs
  n5 : E.m ≠ E.bb
  tm : ∀ k, TS E.bm E.gm w k → k ≠ E.m ∧ k ≠ E.bs ∧ k ≠ E.bb
theorem SeH.lo {E : Env} {w : World} (h : SeH E [] w) : LoH E w := ⟨h.obj, h.em, h.map, h.fr, h.to_, h.n1, h.n2, h.n3, h.n4, h.n5, h.tm⟩

def BeginP (bm gm cm R C : Nat) (ms : List UInt8) (fr to_ : Nat) (ban : List Int) (w : World) (e : Ending) (w' : World) : Prop :=
  ∃ bs bb m, e = .returned (.tuple #[.pointer (some ⟨bs, 0, none⟩), .int .i64 0]) ∧ SeH ⟨bm, gm, cm, R, C, ms, bs, bb, m, fr, to_, ban⟩ [] w' ∧ Below w.heap.size w w' ∧ w.heap.size ≤ bs ∧ w.heap.size ≤ bb ∧ w.heap.size ≤ m

theorem begin_start {bm gm cm R C : Nat} {ms : List UInt8} {w w1 : World} {ban : List Int} {g fr to_ : Nat} (hE : EM bm gm cm R C ms w) (hfr : fr < ms.length) (hto : to_ < ms.length) (hg1 : w1.heap[g]? = some (.cells (bz (banL ms.length ban)) 4 (0, 0))) (hg2 : w.heap.size ≤ g) (hb1 : Below w.heap.size w w1) :
    BeginP bm gm cm R C ms fr to_ ban w (.returned (.tuple #[.pointer (some ⟨(w1.alloc (.map #[] 0)).heap.size, 0, none⟩), .int .i64 0])) ((w1.alloc (.map #[] 0)).alloc (.cells #[.pointer (some ⟨bm, 0, none⟩), .int .i64 (fr : Int), .int .i64 (to_ : Int), .slice (some ⟨g, 0, none⟩) ms.length ms.length, .map (some w1.heap.size)] 69)) := by
  have hN : 0 < ms.length := by omega
  have hgl := blk_lt hg1
  have hs := hb1.size
  have k1 : Kept (fun _ => False) w1 (w1.alloc (.map #[] 0)) := (Kept.refl _ w1).alloc _
  have k2 : ∀ o, Kept (fun _ => False) (w1.alloc (.map #[] 0)) ((w1.alloc (.map #[] 0)).alloc o) := fun o => (Kept.refl _ _).alloc o
  have kk : ∀ o, Kept (fun _ => False) w ((w1.alloc (.map #[] 0)).alloc o) := fun o => ((Kept.of_below hb1 (Nat.le_refl _)).trans k1 (fun _ _ h => h)).trans (k2 o) (fun _ _ h => h)
  have hs2 : (w1.alloc (.map #[] 0)).heap.size = w1.heap.size + 1 := by simp
  have hl := hE.tlt hN
  generalize ho : Obj.cells #[.pointer (some ⟨bm, 0, none⟩), .int .i64 (fr : Int), .int .i64 (to_ : Int), .slice (some ⟨g, 0, none⟩) ms.length ms.length, .map (some w1.heap.size)] 69 = o
  have hnew := heap_alloc_new (w1.alloc (.map #[] 0)) o
  have hc : ∀ j, ((w1.alloc (.map #[] 0)).alloc o).cell? ⟨(w1.alloc (.map #[] 0)).heap.size, j, none⟩ = (#[.pointer (some ⟨bm, 0, none⟩), .int .i64 (fr : Int), .int .i64 (to_ : Int), .slice (some ⟨g, 0, none⟩) ms.length ms.length, .map (some w1.heap.size)] : Array Value)[j]? := fun j => by
    rw [← ho] at hnew ⊢
    rw [blk_cell hnew]
  obtain ⟨e1, t1⟩ := hE.keptX (kk o) (fun _ _ => id)
  have hbm := hl bm (.inr (.inl rfl))
  refine ⟨_, g, w1.heap.size, rfl, ⟨⟨hc 0, hc 1, hc 2, hc 3, hc 4, ?_⟩, e1, (MapM.made w1).kept (k2 o) id, hfr, hto, ?_, ?_, ?_, ?_, ?_, fun k hk => ?_⟩, ?_, ?_, hg2, hs⟩
  · exact ((k2 o).block g (by omega) id).trans ((k1.block g hgl id).trans hg1)
  · show bm ≠ (w1.alloc (.map #[] 0)).heap.size; omega
  · show bm ≠ g; omega
  · show bm ≠ w1.heap.size; omega
  · show w1.heap.size ≠ (w1.alloc (.map #[] 0)).heap.size; omega
  · show w1.heap.size ≠ g; omega
  · have h1 := hl k (t1 k hk)
    show k ≠ w1.heap.size ∧ k ≠ (w1.alloc (.map #[] 0)).heap.size ∧ k ≠ g
    omega
  · exact (hb1.alloc hs _).alloc (by omega) _
  · omega

set_option maxHeartbeats 1000000 in
theorem begin_ok {bm gm cm R C : Nat} {ms : List UInt8} {w : World} {B : Option Addr} {ban : List Int} {cb fr to_ : Nat} (hE : EM bm gm cm R C ms w) (hB : IntsAt w B ban) (hbm : ban.length ≤ maxLen) (h1 : freeB ms (fr : Int) = true) (h2 : freeB ms (to_ : Int) = true) (hfr : fr < ms.length) (hto : to_ < ms.length) :
    Calls Tryd.prog 28 #[.pointer (some ⟨bm, 0, none⟩), .int .i64 (fr : Int), .int .i64 (to_ : Int), .slice B ban.length cb] w (BeginP bm gm cm R C ms fr to_ ban w) := by
  have hmm := @run_makeMap Tryd.prog
  have HF : Hid (∀ i, freeB ms i = true → Calls Tryd.prog 9 #[.pointer (some ⟨bm, 0, none⟩), .int .i64 i] w fun e w' => e = .returned (.bool true) ∧ w = w') := fun i hi => by
    have := free_any bm gm cm ms i w hE.c2 (fun j hj => hE.mark j hj)
    rw [hi] at this
    exact this
  have H1 := Lib.hid h1
  have H2 := Lib.hid h2
  have HM := Lib.hid (marked_any (cap := cb) hE hB hbm)
  have HS : Hid (∀ w1 g, w1.heap[g]? = some (.cells (bz (banL ms.length ban)) 4 (0, 0)) → w.heap.size ≤ g → Below w.heap.size w w1 → BeginP bm gm cm R C ms fr to_ ban w (.returned (.tuple #[.pointer (some ⟨w1.heap.size + 1, 0, none⟩), .int .i64 0])) ((w1.alloc (.map #[] 0)).alloc (.cells #[.pointer (some ⟨bm, 0, none⟩), .int .i64 (fr : Int), .int .i64 (to_ : Int), .slice (some ⟨g, 0, none⟩) ms.length ms.length, .map (some w1.heap.size)] 69))) := fun w1 g a b c => by
    have := begin_start hE hfr hto a b c
    rw [World.size_alloc] at this
    exact this
  clear h1 h2 hE hB
  go_enter Tryd.func28, Tryd.ntmps28
  go_wp2_with (first
    | (go_at_call 9; (with_reducible refine (HF.out _ H1.out).mono ?_); rintro e w' ⟨rfl, rfl⟩)
    | (go_at_call 9; (with_reducible refine (HF.out _ H2.out).mono ?_); rintro e w' ⟨rfl, rfl⟩)
    | (go_at_call 43; (with_reducible refine HM.out.mono ?_); rintro e w1 ⟨g, rfl, hg1, hg2, hb1⟩; have HS1 := Lib.hid (HS.out w1 g hg1 hg2 hb1); clear hg1 hg2 hb1))
  go_ret2
  exact HS1.out

theorem begin_bad {bm gm cm : Nat} {ms : List UInt8} {w : World} {R C : Nat} {B : Option Addr} {n cb : Nat} {fr to_ : Int} (hE : EM bm gm cm R C ms w) (hb : (freeB ms fr && freeB ms to_) = false) :
    Calls Tryd.prog 28 #[.pointer (some ⟨bm, 0, none⟩), .int .i64 fr, .int .i64 to_, .slice B n cb] w fun e w' => e = .returned (.tuple #[.pointer none, .int .i64 2]) ∧ w = w' := by
  have HF : Hid (∀ i, Calls Tryd.prog 9 #[.pointer (some ⟨bm, 0, none⟩), .int .i64 i] w fun e w' => e = .returned (.bool (freeB ms i)) ∧ w = w') := fun i => free_any bm gm cm ms i w hE.c2 (fun j hj => hE.mark j hj)
  have HF1 := Lib.hid (HF.out fr)
  have HF2 := Lib.hid (HF.out to_)
  clear hE HF
  cases h1 : freeB ms fr with
  | false =>
    rw [h1] at HF1
    clear hb h1 HF2
    go_enter Tryd.func28, Tryd.ntmps28
    go_wp2_with (go_at_call 9; (with_reducible refine HF1.out.mono ?_); rintro e w' ⟨rfl, rfl⟩)
    go_ret2
    exact ⟨rfl, rfl⟩
  | true =>
    rw [h1] at HF1 hb
    rw [Bool.true_and] at hb
    rw [hb] at HF2
    clear hb h1
    go_enter Tryd.func28, Tryd.ntmps28
    go_wp2_with (first
      | (go_at_call 9; (with_reducible refine HF1.out.mono ?_); rintro e w' ⟨rfl, rfl⟩)
      | (go_at_call 9; (with_reducible refine HF2.out.mono ?_); rintro e w' ⟨rfl, rfl⟩))
    go_ret2
    exact ⟨rfl, rfl⟩
theorem begin_nil {w : World} {B : Option Addr} {n cb : Nat} {fr to_ : Int} :
    Calls Tryd.prog 28 #[.pointer none, .int .i64 fr, .int .i64 to_, .slice B n cb] w fun e w' => e = .returned (.tuple #[.pointer none, .int .i64 1]) ∧ w = w' := by
  go_enter Tryd.func28, Tryd.ntmps28
  go_wp2
  go_ret2
  exact ⟨rfl, rfl⟩
end Go.Proofs.YtkfijjjnidiejaaDoor
