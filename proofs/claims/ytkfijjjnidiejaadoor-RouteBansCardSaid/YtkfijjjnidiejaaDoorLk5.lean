/-
  look: its walk.
-/
import Derived.Test.YtkfijjjnidiejaaDoorLk4
import Derived.Test.YtkfijjjnidiejaaDoorBg
import Derived.Test.YtkfijjjnidiejaaDoorLoop
import Derived.Deep.LoopGhost
import Derived.Laws.EntriesVeiled
namespace Go.Proofs.YtkfijjjnidiejaaDoor
set_option maxRecDepth 100000
set_option linter.unusedSimpArgs false
open Go Go.RowKit Rq
attribute [local go_sem] Oper.semAt_some

theorem pile_empty {w : World} {b j : Nat} (hc : w.cell? ⟨b, j, none⟩ = some (.slice none 0 0)) (hf : w.frozen? ⟨b, j, none⟩ = false) : PileS w b j none [] :=
  ⟨[], ⟨_, hc, hf, rfl, by simp, World.ownsRow_nil _ _ _ _⟩, by intro k _ hk; simp at hk, List.Perm.refl _, List.Pairwise.nil⟩

/-- What look leaves. -/
structure LookL (E : Env) (w0 : World) (M : List (Nat × Nat)) (W : World) : Prop where
  se : SeH E M W
  nd : (M.map (·.1)).Nodup
  lk : ∀ x y, (x, y) ∈ M → Lk (ins E.R E.C E.ms) (mayF E) E.to_ E.fr (lftF E) x y
  kp : Kept (fun k => k = E.bm ∨ k = E.m) w0 W
  ts : ∀ k, TS E.bm E.gm W k → TS E.bm E.gm w0 k ∨ w0.heap.size ≤ k
def LookP (E : Env) (w0 : World) (bud : Int) (e : Ending) (w' : World) : Prop :=
  ∃ (b : Bool) (M : List (Nat × Nat)), e = .returned (.bool b) ∧ LookL E w0 M w' ∧ (b = true → LkAll E M ∧ (M.length : Int) ≤ bud) ∧ (b = false → bud < (M.length : Int))

theorem LookL.of {E : Env} {w0 W : World} {M : List (Nat × Nat)} {s : List Pq.It} (H : SeH E [] w0) (h : Lo E w0 M s W) (hnd : (M.map (·.1)).Nodup) (hlk : ∀ x y, (x, y) ∈ M → Lk (ins E.R E.C E.ms) (mayF E) E.to_ E.fr (lftF E) x y) : LookL E w0 M W := by
  have hl := H.lo.lts
  refine ⟨⟨h.obj, h.em, h.map, H.fr, H.to_, H.n1, H.n2, H.n3, H.n4, H.n5, fun k hk => ?_⟩, hnd, hlk, h.kp, fun k hk => (h.ts k hk).imp id (fun h1 => by omega)⟩
  rcases h.ts k hk with h1 | h1
  · exact H.tm k h1
  · omega

theorem grownBy_put (W : World) (D : Nat) (o : Obj) : W.grownBy (W.putObj D o) (some D) :=
  ⟨rfl, rfl, rfl, by simp [World.putObj], fun k _ hne => World.putObj_heap_other (fun e => hne (by rw [e]))⟩

theorem LookL.put {E : Env} {w0 X : World} {M : List (Nat × Nat)} {D : Nat} (H : SeH E [] w0) (h : LookL E w0 M X) (hD : w0.heap.size ≤ D) (hX : X.heap[D]? = some (.deferred (some []))) : LookL E w0 M (X.putObj D (.deferred none)) := by
  have hl := H.lo.lts
  have hN : 0 < E.ms.length := by have := H.fr; have h1 : E.N = E.ms.length := rfl; omega
  have hk : Kept (fun k => k = D) X (X.putObj D (.deferred none)) := (Kept.refl _ X).grown (grownBy_put X D _) (fun k e => .inl (by injection e with e; exact e.symm))
  obtain ⟨e1, t1⟩ := h.se.em.keptX hk (fun k hk' e => by
    subst e
    have := h.se.em.tcells hN k hk' _ hX
    cases this)
  exact ⟨⟨h.se.obj.kept hk (by omega) (by omega), e1, h.se.map.kept hk (by omega), H.fr, H.to_, H.n1, H.n2, H.n3, H.n4, H.n5, fun k hk' => h.se.tm k (t1 k hk')⟩, h.nd, h.lk, h.kp.trans hk (fun i hi e => by omega), fun k hk' => h.ts k (t1 k hk')⟩

/-- The marks so far. -/
structure MkD (W0 : World) (Ds : List Nat) (W : World) : Prop where
  nd : Ds.Nodup
  mem : ∀ D ∈ Ds, W0.heap.size ≤ D ∧ W.heap[D]? = some (.deferred (some []))
  sz : W0.heap.size ≤ W.heap.size
theorem MkD.turn {W0 W W' : World} {Ds : List Nat} (h : MkD W0 Ds W) (k : Mks W W') : MkD W0 Ds W' :=
  ⟨h.nd, fun D hD => ⟨(h.mem D hD).1, k.mks D (h.mem D hD).2⟩, Nat.le_trans h.sz k.size⟩
theorem MkD.more {W0 W W' : World} {Ds : List Nat} (h : MkD W0 Ds W) (k : Mks W W') {D : Nat} (h1 : W.heap.size ≤ D) (h2 : W'.heap[D]? = some (.deferred (some []))) : MkD W0 (D :: Ds) W' := by
  refine ⟨List.nodup_cons.2 ⟨fun hm => ?_, h.nd⟩, fun E hE => ?_, Nat.le_trans h.sz k.size⟩
  · have := blk_lt (h.mem D hm).2; omega
  · rcases List.mem_cons.1 hE with rfl | hE
    · exact ⟨Nat.le_trans h.sz h1, h2⟩
    · exact ⟨(h.mem E hE).1, k.mks E (h.mem E hE).2⟩
def colD (Ds : List Nat) : List Deferred := Ds.map fun D => { target := .collected D, args := #[] }

theorem look_loop {Q : Exit → Act → World → Prop} (code : Code) (hcode : lpNode ((Tryd.f29).body.getD .skip) = some code)
    {E : Env} {w0 W0 : World} (H : LoH E w0) {M0 : List (Nat × Nat)} {s0 : List Pq.It} (h0 : LkI E w0 M0 s0 W0) {bud : Int} {a0 : Array Value} (ha0 : FrL w0.heap.size bud a0)
    (hout : ∀ (a : Array Value) (Ds : List Nat) (M : List (Nat × Nat)) (s : List Pq.It) (W : World), FrL w0.heap.size bud a → LkI E w0 M s W → bud < (M.length : Int) → MkD W0 Ds W → Q (.exit 0) { tmps := a, defers := colD Ds } W)
    (hret : ∀ (a : Array Value) (Ds : List Nat) (M : List (Nat × Nat)) (s : List Pq.It) (W : World), a[4]? = some (.bool true) → (M.length : Int) ≤ bud → Lo E w0 M s W → (M.map (·.1)).Nodup → LkAll E M → MkD W0 Ds W → Q .ret { tmps := a, defers := colD Ds } W) :
    (Code.loop code).wp Tryd.prog Q { tmps := a0, defers := [] } W0 := by
  refine wp_loop_ghost (fun m a W => ∃ (Ds : List Nat) (M : List (Nat × Nat)) (s : List Pq.It) (b : Array Value), a = { tmps := b, defers := colD Ds } ∧ FrL w0.heap.size bud b ∧ LkI E w0 M s W ∧ 5 * (E.N - M.length) + s.length = m ∧ MkD W0 Ds W) _
    ⟨[], M0, s0, a0, rfl, ha0, h0, rfl, List.nodup_nil, by simp, Nat.le_refl _⟩ ?_
  rintro m a W ⟨Ds, M, s, b, rfl, hb, hI, rfl, hk⟩
  rw [hb.fr]
  refine (wpIn_wide (n := 9)).1 (look_round (by omega) code hcode H hI _ bud _ ?_ ?_ ?_)
  · intro h1 a ha
    exact hout a Ds M s W ha hI h1 hk
  · intro a s' W' h1 h2 h3 h4 h5
    exact hret a Ds M s' W' h2 h1 h3 hI.sta.nd h4 (hk.turn h5)
  · intro a' ds' M' s' W' h1 h2 h3 h4 h5
    rcases h5 with rfl | ⟨D, h6, h7, rfl⟩
    · exact ⟨_, h3, Ds, M', s', a', rfl, h1, h2, rfl, hk.turn h4⟩
    · exact ⟨_, h3, D :: Ds, M', s', a', rfl, h1, h2, rfl, hk.more h4 h6 h7⟩

theorem al5 (w : World) (o0 o1 o2 o3 o4 : Obj) : ((((((w.alloc o0).alloc o1).alloc o2).alloc o3).alloc o4).heap.size = w.heap.size + 5) ∧ ((((((w.alloc o0).alloc o1).alloc o2).alloc o3).alloc o4).heap[w.heap.size]? = some o0) ∧ ((((((w.alloc o0).alloc o1).alloc o2).alloc o3).alloc o4).heap[w.heap.size + 1]? = some o1) ∧
    ((((((w.alloc o0).alloc o1).alloc o2).alloc o3).alloc o4).heap[w.heap.size + 2]? = some o2) ∧ ((((((w.alloc o0).alloc o1).alloc o2).alloc o3).alloc o4).heap[w.heap.size + 3]? = some o3) ∧ ((((((w.alloc o0).alloc o1).alloc o2).alloc o3).alloc o4).heap[w.heap.size + 4]? = some o4) := by
  have a : ∀ (v : World) (o : Obj) (k : Nat), k < v.heap.size → (v.alloc o).heap[k]? = v.heap[k]? := fun v o k hk => Below.heap_alloc v o k hk
  have n : ∀ (v : World) (o : Obj) (k : Nat), k = v.heap.size → (v.alloc o).heap[k]? = some o := fun v o k hk => by rw [hk]; exact World.alloc_heap_new v o
  refine ⟨by simp, ?_, ?_, ?_, ?_, ?_⟩
  · rw [a _ _ _ (by simp; omega), a _ _ _ (by simp; omega), a _ _ _ (by simp; omega), a _ _ _ (by simp), n _ _ _ rfl]
  · rw [a _ _ _ (by simp <;> omega), a _ _ _ (by simp <;> omega), a _ _ _ (by simp), n _ _ _ (by simp)]
  · rw [a _ _ _ (by simp <;> omega), a _ _ _ (by simp), n _ _ _ (by simp)]
  · rw [a _ _ _ (by simp), n _ _ _ (by simp)]
  · rw [n _ _ _ (by simp)]

/-- How it begins. -/
theorem Lo.start {E : Env} {w : World} (H : SeH E [] w) {o3 o4 : Obj} (h3 : o3 = .cells #[.func (.func 62) #[] #[.pointer (some ⟨w.heap.size + 2, 0, none⟩)]] 42) (h4 : o4 = .cells #[.func (.func 45) #[] #[.pointer (some ⟨w.heap.size + 1, 0, none⟩), .pointer (some ⟨w.heap.size + 3, 0, none⟩)]] 90) {t0 t1 t2 : TypeId} :
    Lo E w [] [] (((((w.alloc (.cells #[.pointer (some ⟨E.bs, 0, none⟩)] t0)).alloc (.cells #[.slice none 0 0] t1)).alloc (.cells #[.pointer (some ⟨E.bs, 0, none⟩)] t2)).alloc o3).alloc o4) := by
  subst h3 h4
  obtain ⟨e5, b0, b1, b2, b3, b4⟩ := al5 w (.cells #[.pointer (some ⟨E.bs, 0, none⟩)] t0) (.cells #[.slice none 0 0] t1) (.cells #[.pointer (some ⟨E.bs, 0, none⟩)] t2) (.cells #[.func (.func 62) #[] #[.pointer (some ⟨w.heap.size + 2, 0, none⟩)]] 42) (.cells #[.func (.func 45) #[] #[.pointer (some ⟨w.heap.size + 1, 0, none⟩), .pointer (some ⟨w.heap.size + 3, 0, none⟩)]] 90)
  have hk : ∀ X : Nat → Prop, Kept X w (((((w.alloc (.cells #[.pointer (some ⟨E.bs, 0, none⟩)] t0)).alloc (.cells #[.slice none 0 0] t1)).alloc (.cells #[.pointer (some ⟨E.bs, 0, none⟩)] t2)).alloc (.cells #[.func (.func 62) #[] #[.pointer (some ⟨w.heap.size + 2, 0, none⟩)]] 42)).alloc (.cells #[.func (.func 45) #[] #[.pointer (some ⟨w.heap.size + 1, 0, none⟩), .pointer (some ⟨w.heap.size + 3, 0, none⟩)]] 90)) := fun X => (((((Kept.refl X w).alloc _).alloc _).alloc _).alloc _).alloc _
  generalize (((((w.alloc (.cells #[.pointer (some ⟨E.bs, 0, none⟩)] t0)).alloc (.cells #[.slice none 0 0] t1)).alloc (.cells #[.pointer (some ⟨E.bs, 0, none⟩)] t2)).alloc (.cells #[.func (.func 62) #[] #[.pointer (some ⟨w.heap.size + 2, 0, none⟩)]] 42)).alloc (.cells #[.func (.func 45) #[] #[.pointer (some ⟨w.heap.size + 1, 0, none⟩), .pointer (some ⟨w.heap.size + 3, 0, none⟩)]] 90)) = W at *
  have hN : 0 < E.ms.length := by have := H.fr; have h1 : E.N = E.ms.length := rfl; omega
  have hl := H.em.tlt hN
  obtain ⟨e1, t1'⟩ := H.em.keptX (hk (fun _ => False)) (fun _ _ => id)
  refine ⟨H.obj.kept (hk (fun _ => False)) id id, e1, fun k hk' => .inl (t1' k hk'), H.map.kept (hk (fun _ => False)) id, by rw [blk_cell b0]; rfl, by rw [blk_cell b2]; rfl, by rw [blk_cell b3]; rfl, by rw [blk_cell b4]; rfl, ⟨none, pile_empty (by rw [blk_cell b1]; rfl) (blk_free b1 0), (fun k e => by cases e), fun k hk' ho => ?_⟩, hk _, by omega⟩
  have := hl k (t1' k hk')
  rcases ho with e | e
  · omega
  · cases e

set_option maxHeartbeats 4000000 in
theorem look_any {E : Env} {w : World} (H : SeH E [] w) (bud : Int) :
    Calls Tryd.prog 29 #[.pointer (some ⟨E.bs, 0, none⟩), .int .i64 bud] w (LookP E w bud) := by
  have HL := Lib.hid H.lo
  have HS := Lib.hid H
  have hl := H.lo.lts
  have hmf : ∀ (fn : Fn) (first cap : Array Value) (w : World), (Instr.makeFunc fn first cap).run Tryd.prog w = .ok (.func fn first cap) w := fun _ _ _ _ => rfl
  clear H
  refine (callsIn_wide (n := 9)).1 ?_
  refine callsIn_of_wp_marks Tryd.func29 rfl trivial ?_ rfl
  simp only [Tryd.ntmps29, List.size_toArray, List.length_cons, List.length_nil, Nat.reduceAdd, Nat.reduceSub, Array.replicate_succ, Array.replicate_zero, List.push_toArray, List.append_toArray, List.nil_append, List.cons_append]
  refine wpIn_wide.2 ?_
  have c2 : ((w.alloc (.cells #[.pointer (some ⟨E.bs, 0, none⟩)] 63)).alloc (.cells #[.slice none 0 0] 85)).cell? ⟨w.heap.size, 0, none⟩ = some (.pointer (some ⟨E.bs, 0, none⟩)) := by
    have h := World.alloc_heap_new w (.cells #[.pointer (some ⟨E.bs, 0, none⟩)] 63)
    rw [World.cell?_alloc_some _ _ _ (by rw [blk_cell h]; rfl), blk_cell h]; rfl
  go_wp2_with fail
  go_step3
  go_wp2_with (go_at_call 44; (with_reducible refine (left_mk E.bs _).mono ?_); rintro e w1 ⟨rfl, rfl⟩)
  generalize hW : ((((w.alloc (.cells #[.pointer (some ⟨E.bs, 0, none⟩)] 63)).alloc (.cells #[.slice none 0 0] 85)).alloc (.cells #[.pointer (some ⟨E.bs, 0, none⟩)] 63)).alloc (.cells #[.func (.func 62) #[] #[.pointer (some ⟨w.heap.size + 1 + 1, 0, none⟩)]] 42)).alloc (.cells #[.func (.func 45) #[] #[.pointer (some ⟨w.heap.size + 1, 0, none⟩), .pointer (some ⟨w.heap.size + 1 + 1 + 1, 0, none⟩)]] 90) = W
  have HLo : Hid (Lo E w [] [] W) := by
    show Lo E w [] [] W
    rw [← hW]; exact Lo.start HS.out rfl rfl
  have f2 := HLo.out.c2
  have k2 := HLo.out.obj.c2
  have HM : Hid (∀ n, Calls Tryd.prog 47 #[.pointer (some ⟨E.bs, 0, none⟩), .int .i64 (E.to_ : Int)] (W.drewN n) fun e w' => e = .returned (.bool (mayF E E.to_)) ∧ ∃ k, w' = (W.drewN n).drewN k) := fun n => by
    refine (may_any (HLo.out.obj.drewN n) (by have := HL.out.N; omega) HS.out.to_).mono ?_
    rintro e w' ⟨rfl, rfl⟩
    exact ⟨rfl, 0, rfl⟩
  have HZ : Hid (w.heap.size + 5 ≤ W.heap.size) := HLo.out.sz
  clear hW c2
  have HOut : Hid (∀ (Ds : List Nat) (M : List (Nat × Nat)) (b : Bool) (W0 W' : World), w.heap.size ≤ W0.heap.size → LookL E w M W' → (b = true → LkAll E M ∧ (M.length : Int) ≤ bud) → (b = false → bud < (M.length : Int)) → MkD W0 Ds W' →
      ∀ tmps : Array Value, tmps[4]? = some (.bool b) → LeavesInM Fence.wide 9 Tryd.prog Tryd.f29 tmps (LookP E w bud) (colD Ds) .returning W') := by
    intro Ds M b W0 W' hs0 h1 h2 h3 h4 tmps h5
    refine leaves_marks (p := fun D => W0.heap.size ≤ D) (I := fun X => LookL E w M X) ?_ ?_ Ds W' h4.nd h4.mem h1
    · intro X D hp hI hD
      exact hI.put HS.out (Nat.le_trans hs0 hp) hD
    · intro X hX
      have HF : LookP E w bud (.returned (.bool b)) X := ⟨b, M, rfl, hX, h2, h3⟩
      simpa [LeavesInM, LeavesIn, settle, results, Tryd.results29, h5] using HF
  cases hm : mayF E E.to_ with
  | false =>
    rw [hm] at HM
    go_quiet ((go_at_call 47; exact Calls.quiet_of (HM.out _)))
    clear HM
    go_wp2
    go_step3
    go_wp2
    have HI0 : Hid (LkI E w [] [] (W.drewN nq)) := by
      refine ⟨HLo.out.still ((Kept.refl _ W).drewN nq), ?_, fun x hx => by simp at hx, by simp⟩
      have := Sta.start_ (N := E.N) (bk := ins E.R E.C E.ms) (may := mayF E) (e := E.to_) (f := E.fr) (h := lftF E) HS.out.to_
      rw [hm] at this
      exact this
    have hsz0 : Hid (w.heap.size ≤ (W.drewN nq).heap.size) := Nat.le_trans (by omega) HZ.out
    clear HLo
    refine look_loop _ (by kernel_rfl) HL.out HI0.out ⟨rfl, rfl, rfl, rfl, rfl, rfl⟩ ?_ ?_
    · intro a Ds M s W' ha hI hlt hmk
      rw [ha.fr]
      generalize (fun j => a.getD j undef) = f
      unfold frL
      have HQ := Lib.hid (HOut.out Ds M false _ W' hsz0.out (LookL.of HS.out hI.lo hI.sta.nd (fun x y hm => hI.sta.in_ HL.out.lft hm)) (fun e => by cases e) (fun _ => hlt) hmk)
      clear hI hlt hmk HOut HI0
      go_wp2
      exact HQ.out _ rfl
    · intro a Ds M s W' h4 hle hlo hnd hall hmk
      exact HOut.out Ds M true _ W' hsz0.out (LookL.of HS.out hlo hnd (fun x y hm => (hall x y).1 hm)) (fun _ => ⟨hall, hle⟩) (fun e => by cases e) hmk a h4
  | true =>
    rw [hm] at HM
    go_quiet ((go_at_call 47; exact Calls.quiet_of (HM.out _)))
    clear HM f2 k2
    generalize hW5 : W.drewN nq = W5
    have HLo5 : Hid (Lo E w [] [] W5) := by
      show Lo _ _ _ _ W5
      rw [← hW5]; exact HLo.out.still ((Kept.refl _ W).drewN nq)
    have HZ5 : Hid (w.heap.size + 5 ≤ W5.heap.size) := HLo5.out.sz
    have f2 := HLo5.out.c2
    have f7 := HLo5.out.c7
    have k2 := HLo5.out.obj.c2
    have HP : Hid (Calls Tryd.prog 45 #[.int .i64 (E.to_ : Int), .int .i64 0, .pointer (some ⟨w.heap.size + 1, 0, none⟩), .pointer (some ⟨w.heap.size + 3, 0, none⟩)] W5.drew fun e W' => e = .returned (.tuple #[]) ∧ LoP E w [] (Pq.ins (item (lftF E) 0 E.to_) []) W5.drew W') := by
      have := lo_push HL.out (HLo5.out.still ((Kept.refl _ W5).drew)) (c := E.to_) (d := 0) HS.out.to_ (by omega) (by simp)
      exact this
    clear hW5
    go_wp2
    go_still_tail 5, (by kernel_rfl)
    change wpList _ _ _ _ _ W5.drew
    go_wp2_with fail
    refine HP.out.mono ?_
    rintro e W6 ⟨rfl, hlo⟩
    have HI0 : Hid (LkI E w [] [item (lftF E) 0 E.to_] W6) := by
      refine ⟨hlo.lo, ?_, fun x hx => ?_, by simp⟩
      · have := Sta.start_ (N := E.N) (bk := ins E.R E.C E.ms) (may := mayF E) (e := E.to_) (f := E.fr) (h := lftF E) HS.out.to_
        rw [hm] at this
        exact this
      · have : x = item (lftF E) 0 E.to_ := by simpa using hx
        exact ⟨0, E.to_, this, Nat.zero_le _⟩
    have hsz0 : Hid (w.heap.size ≤ W6.heap.size) := Nat.le_trans (by omega) (Nat.le_trans HZ5.out hlo.kp.size)
    clear hlo HP f2 f7 k2 HLo5
    go_wp2
    go_step3
    go_wp2
    refine look_loop _ (by kernel_rfl) HL.out HI0.out ⟨rfl, rfl, rfl, rfl, rfl, rfl⟩ ?_ ?_
    · intro a Ds M s W' ha hI hlt hmk
      rw [ha.fr]
      generalize (fun j => a.getD j undef) = f
      unfold frL
      have HQ := Lib.hid (HOut.out Ds M false _ W' hsz0.out (LookL.of HS.out hI.lo hI.sta.nd (fun x y hm => hI.sta.in_ HL.out.lft hm)) (fun e => by cases e) (fun _ => hlt) hmk)
      clear hI hlt hmk HOut HI0
      go_wp2
      exact HQ.out _ rfl
    · intro a Ds M s W' h4 hle hlo hnd hall hmk
      exact HOut.out Ds M true _ W' hsz0.out (LookL.of HS.out hlo hnd (fun x y hm => (hall x y).1 hm)) (fun _ => ⟨hall, hle⟩) (fun e => by cases e) hmk a h4
end Go.Proofs.YtkfijjjnidiejaaDoor
