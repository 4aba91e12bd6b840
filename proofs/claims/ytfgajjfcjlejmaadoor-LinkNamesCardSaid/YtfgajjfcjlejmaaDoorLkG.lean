/-
  A number is met that is not new; meet whole.
-/
import Derived.Test.YtfgajjfcjlejmaaDoorLkF
namespace Go.Proofs.YtfgajjfcjlejmaaDoor
set_option maxRecDepth 100000
set_option linter.unusedSimpArgs false
open Go Go.RowKit Wr
attribute [local go_sem] Oper.semAt_some

set_option maxHeartbeats 4000000 in
theorem lmeet_old {w : World} {T S : Nat → Prop} {o N : Nat} {s : Lk.S} (h : LnkAt w T S o N s) (hO : Lk.Ok s) (hZ : TabZ w) (hgz : ¬ T 2) {seq : Nat} (hs : seq ≤ 4294967295) (hc1 : Wd.code s.l s.e seq ≠ 1) (m : Msg) {A : Option Addr} {cap : Nat} :
    Calls Tryd.prog 49 #[.pointer (some ⟨o, 6, none⟩), .int .u32 (seq : Nat), msgA m A m.claims.length cap] w (MeetQ w T S o N s seq m) := by
  obtain ⟨P, hP⟩ : ∃ P : Ending → World → Prop, P = MeetQ w T S o N s seq m := ⟨_, rfl⟩
  have hnl : Wd.nl s.l s.e seq = s.l := by unfold Wd.nl; rw [if_neg hc1]
  have hne : Wd.ne s.l s.e seq = s.e := by unfold Wd.ne; rw [if_neg hc1]
  have HP : Hid (∀ V x, Kept (fun k => k = o) (w.alloc x) V → LnkAt V T S o N s → P (.returned (.slice none 0 0)) V) := by
    rw [hP]
    intro V x a1 a2
    have hb : Below w.heap.size w (w.alloc x) := (Below.refl _ w).alloc (Nat.le_refl _) x
    have hm : Lk.meetS s seq m = s := by unfold Lk.meetS; rw [if_neg hc1]
    have hu : Lk.meetU s seq m = [] := by unfold Lk.meetU; rw [if_neg hc1]
    refine ⟨_, rfl, ((Kept.of_below (X := S) hb (Nat.le_refl _)).trans (a1.mono (Y := S) (fun k _ e => by rw [e]; exact h.so)) (fun _ _ h => h)), by rw [hm]; exact a2, by rw [hu]; exact MsgsR.nil _ _ _⟩
  rw [← hP]
  clear hP
  have HNX : Hid (∀ x, Calls Tryd.prog 71 #[.pointer (some ⟨o, 8, none⟩)] (w.alloc x) fun e w' => (∃ n c, e = .returned (.tuple #[.int .u32 (n : Nat), .bool c])) ∧ w' = w.alloc x) := by
    intro x
    obtain ⟨f, hf⟩ := (h.alloc x).win
    refine (next_gen hf hO.w.hl).mono ?_
    rintro e w' ⟨⟨n, c, rfl, _⟩, rfl⟩
    exact ⟨⟨n, c, rfl⟩, rfl⟩
  have HME : Hid (∀ x, Calls Tryd.prog 72 #[.pointer (some ⟨o, 8, none⟩), .int .u32 (seq : Nat)] (w.alloc x) fun e w' => e = .returned (.int .i64 (Wd.code s.l s.e seq : Nat)) ∧ P (.returned (.slice none 0 0)) w') := by
    intro x
    have hb : Below w.heap.size w (w.alloc x) := (Below.refl _ w).alloc (Nat.le_refl _) x
    refine (win_meet (h.alloc x) hO (hZ.below hb) hgz hs).mono ?_
    rintro e w' ⟨rfl, a1, a2⟩
    rw [hnl, hne] at a2
    exact ⟨rfl, HP.out w' x a1 a2⟩
  have hcc : ((Wd.code s.l s.e seq : Int) != 1) = true := by
    have : ¬ (Wd.code s.l s.e seq : Int) = 1 := by omega
    simpa using this
  have hcc2 : ((Wd.code s.l s.e seq : Int) == 1) = false := by
    have : ¬ (Wd.code s.l s.e seq : Int) = 1 := by omega
    simpa using this
  clear h hO hZ hgz hs hc1 hnl hne HP
  generalize Wd.code s.l s.e seq = cd at *
  obtain ⟨x0, x1, x2, x3, x4, x5, x6, x7, x8⟩ := m
  refine (callsIn_wide (n := 9)).1 ?_
  refine callsIn_of_wp_marks Tryd.func49 rfl trivial ?_ rfl
  simp only [Tryd.ntmps49, List.size_toArray, List.length_cons, List.length_nil, Nat.reduceAdd, Nat.reduceSub, Array.replicate_succ, Array.replicate_zero, List.push_toArray, List.append_toArray, List.nil_append, List.cons_append]
  gi_wp2_with fail
  refine wpIn_wide.2 (wp_scope_straight ?_)
  go_wp2_with fail
  refine (HNX.out _).mono ?_
  rintro e w1 ⟨⟨n, c, rfl⟩, hw1⟩
  rw [hw1]
  clear hw1
  go_wp2_with fail
  refine (HME.out _).mono ?_
  rintro e V ⟨rfl, hp⟩
  have HF := Lib.hid hp
  clear hp HME HNX
  go_wp2
  rw [Exit.noGoto_ret]
  exact ⟨_, results_tmp (fn := Tryd.f49) (t := 6) rfl _ _ _, HF.out⟩

/-- A number is met. -/
theorem lmeet_any {w : World} {T S : Nat → Prop} {o N : Nat} {s : Lk.S} (h : LnkAt w T S o N s) (hO : Lk.Ok s) (hZ : TabZ w) (hgz : ¬ T 2) {seq : Nat} (hs : seq ≤ 4294967295) (m : Msg) {A : Option Addr} {cap : Nat} (hC : ClT w T A m.claims cap) (hl : m.claims.length ≤ 100000) (hN : N < 10000000) :
    Calls Tryd.prog 49 #[.pointer (some ⟨o, 6, none⟩), .int .u32 (seq : Nat), msgA m A m.claims.length cap] w (MeetQ w T S o (N + 1) s seq m) := by
  by_cases hc : Wd.code s.l s.e seq = 1
  · exact lmeet_new h hO hZ hgz hs hc m hC hl hN
  · refine (lmeet_old h hO hZ hgz hs hc m).mono ?_
    rintro e w' ⟨v, rfl, a1, a2, a3⟩
    exact ⟨v, rfl, a1, a2.mono (by omega), a3⟩
end Go.Proofs.YtfgajjfcjlejmaaDoor
