/-
  A link is made; it opens; a Hello or an Ack alone.
-/
import Derived.Test.YtfgajjfcjlejmaaDoorLk3
namespace Go.Proofs.YtfgajjfcjlejmaaDoor
set_option maxRecDepth 100000
set_option linter.unusedSimpArgs false
open Go Go.RowKit Wr
attribute [local go_sem] Oper.semAt_some

/-- Packets in a list. -/
abbrev PEn := Pkt × (Option Addr × Nat)
def pkC (p : Pkt) (u : Value) : List Value := [.int .i64 p.from_, .int .i64 p.to_, .int .u32 (p.fe : Nat), .int .u32 (p.te : Nat), .int .u32 (p.seq : Nat), .int .u32 (p.met : Nat), .int .i64 p.msg.kind, .int .i64 p.msg.cell, .int .u32 (p.msg.gen : Nat), .int .u64 (p.msg.stamp : Nat), .int .i64 p.msg.prio, .int .i64 p.msg.hops, .int .i64 p.msg.origin, .int .i64 p.msg.other, u]
def PEn.v (e : PEn) : Value := .slice e.2.1 e.1.msg.claims.length e.2.2
def noPEn : PEn := (default, none, 0)
def csP (E : List PEn) : List Value := E.flatMap fun e => pkC e.1 (PEn.v e)
theorem csP_length (l : List PEn) : (csP l).length = l.length * 15 := by
  induction l with
  | nil => rfl
  | cons x l ih => show (pkC x.1 (PEn.v x) ++ csP l).length = _; rw [List.length_append, ih]; simp [pkC]; omega
theorem csP_append (l m : List PEn) : csP (l ++ m) = csP l ++ csP m := by simp [csP]
theorem csP_get {l : List PEn} {k j : Nat} (h : k < l.length) (hj : j < 15) : (csP l)[k * 15 + j]? = (pkC (l.getD k noPEn).1 (PEn.v (l.getD k noPEn)))[j]? := by
  induction l generalizing k with
  | nil => simp at h
  | cons x l ih =>
    show (pkC x.1 (PEn.v x) ++ csP l)[k * 15 + j]? = _
    cases k with
    | zero => rw [List.getElem?_append_left (by simp [pkC]; omega)]; simp
    | succ k =>
      rw [List.getElem?_append_right (by simp [pkC]; omega), List.getD_cons_succ, ← ih (by simpa using h)]
      congr 1
      simp [pkC]; omega
theorem pkC_one {p : Pkt} {v : Value} (hv : v.oneCell' = true) : ∀ u ∈ pkC p v, u.oneCell' = true := by
  intro u h
  simp [pkC] at h
  rcases h with rfl | rfl | rfl | rfl | rfl | rfl | rfl | rfl | rfl | rfl | rfl | rfl | rfl | rfl | rfl
  all_goals first | rfl | exact hv
theorem csP_one {l : List PEn} : ∀ u ∈ csP l, u.oneCell' = true := by
  intro u h
  simp only [csP, List.mem_flatMap] at h
  obtain ⟨x, _, h⟩ := h
  exact pkC_one rfl u h
/-- Packets of a call's own; their claims' blocks are none of T. -/
def PktsR (w : World) (T : Nat → Prop) (base : Nat) (v : Value) (L : List Pkt) : Prop :=
  ∃ E : List PEn, E.map (·.1) = L ∧ w.ownsRow base 39 15 v E.length (csP E) ∧ ∀ e ∈ E, ClT w T e.2.1 e.1.msg.claims e.2.2
theorem rowB {w : World} {B B' : Nat} {e : TypeId} {size : Nat} {v : Value} {n : Nat} {xs : List Value} (h : w.ownsRow B e size v n xs) (hB : B' ≤ B) : w.ownsRow B' e size v n xs :=
  ⟨h.1, h.2.imp id (fun ⟨g, c, cur, e1, e2, r⟩ => ⟨g, c, cur, e1, by omega, r⟩)⟩
theorem PktsR.base {w : World} {T : Nat → Prop} {B B' : Nat} {v : Value} {L : List Pkt} (h : PktsR w T B v L) (hB : B' ≤ B) : PktsR w T B' v L := by
  obtain ⟨E, h1, h2, h3⟩ := h
  exact ⟨E, h1, rowB h2 hB, h3⟩
theorem PktsR.nil (w : World) (T : Nat → Prop) (B : Nat) : PktsR w T B (.slice none 0 0) [] := ⟨[], rfl, World.ownsRow_nil _ _ _ _, fun e he => by cases he⟩
theorem PktsR.below {w w' : World} {T : Nat → Prop} {B : Nat} {v : Value} {L : List Pkt} (h : PktsR w T B v L) (hb : Below w.heap.size w w') : PktsR w' T B v L := by
  obtain ⟨E, h1, h2, h3⟩ := h
  exact ⟨E, h1, owns_below h2 hb (Nat.le_refl _), fun e he => (h3 e he).below hb⟩
theorem new_rowP {w : World} {T : Nat → Prop} (p : Pkt) {A : Option Addr} {cap : Nat} (hc : ClT w T A p.msg.claims cap) :
    PktsR (w.alloc (.cells #[.int .i64 p.from_, .int .i64 p.to_, .int .u32 (p.fe : Nat), .int .u32 (p.te : Nat), .int .u32 (p.seq : Nat), .int .u32 (p.met : Nat), .int .i64 p.msg.kind, .int .i64 p.msg.cell, .int .u32 (p.msg.gen : Nat), .int .u64 (p.msg.stamp : Nat), .int .i64 p.msg.prio, .int .i64 p.msg.hops, .int .i64 p.msg.origin, .int .i64 p.msg.other, .slice A p.msg.claims.length cap] 39)) T w.heap.size (.slice (some ⟨w.heap.size, 0, none⟩) 1 1) [p] := by
  refine ⟨[(p, A, cap)], rfl, ⟨by rw [csP_length], .inr ⟨w.heap.size, 1, _, rfl, Nat.le_refl _, World.alloc_heap_new w _, Nat.le_refl _, by simp [maxLen], rfl, rfl⟩⟩, fun e he => ?_⟩
  rw [List.mem_singleton] at he
  subst he
  exact hc.below ((Below.refl _ w).alloc (Nat.le_refl _) _)

/-- A packet alone whose message has no number. -/
theorem bare_any {w : World} {T S : Nat → Prop} {o N : Nat} {s : Lk.S} (h : LnkAt w T S o N s) (k : Int) :
    Calls Tryd.prog 37 #[.pointer (some ⟨o, 0, none⟩), .int .i64 k] w fun e w' => ∃ v, e = .returned v ∧ Below w.heap.size w w' ∧ ∀ T' : Nat → Prop, (∀ k, T' k → k < w.heap.size) → PktsR w' T' w.heap.size v [Lk.mk s 0 (Lk.bareM k)] := by
  have HPK : Hid (∀ W : World, Below w.heap.size w W → Calls Tryd.prog 43 #[.pointer (some ⟨o, 0, none⟩), .int .u32 0, .agg #[.int .i64 k, .int .i64 0, .int .u32 0, .int .u64 0, .int .i64 0, .int .i64 0, .int .i64 0, .int .i64 0, .slice none 0 0]] W fun e w' => ∃ A' cap', e = .returned (pktA (Lk.mk s 0 (Lk.bareM k)) A' 0 cap') ∧ w'.ownsRow W.heap.size 138 2 (.slice A' 0 cap') 0 [] ∧ Below W.heap.size W w') := by
    intro W hW
    exact packet_any (h.below hW) (Lk.bareM k) (ClT.none W T) (by simp [Lk.bareM]) 0
  have HF : Hid (∀ (w2 : World) (A' : Option Addr) (cap' : Nat), w2.ownsRow w.heap.size 138 2 (.slice A' 0 cap') 0 [] → ∀ T' : Nat → Prop, (∀ k, T' k → k < w.heap.size) → ClT w2 T' A' (Lk.mk s 0 (Lk.bareM k)).msg.claims cap') := by
    intro w2 A' cap' hr T' hT
    obtain ⟨A2, c2, e, hh⟩ := row_claims (l := []) hr
    cases e
    exact hh T' hT
  clear h
  simp only [pktA] at HPK
  go_enter Tryd.func37, Tryd.ntmps37
  go_wp2_with fail
  refine (HPK.out _ (Below.refl _ w)).mono ?_
  rintro e w2 ⟨A', cap', rfl, hr, hb⟩
  have HR := Lib.hid hr
  have HB := Lib.hid hb
  clear hr hb
  go_wp2
  go_ret
  refine ⟨_, rfl, HB.out.trans (((Below.refl _ w2).alloc (Nat.le_refl _) _).mono HB.out.size), fun T' hT => ?_⟩
  exact (new_rowP (Lk.mk s 0 (Lk.bareM k)) (HF.out w2 A' cap' HR.out T' hT)).base HB.out.size

@[reducible] def sesV (m : Nat) : Value := .agg #[.int .u32 0, .slice none 0 0, .int .u32 0, .int .u64 0, .map (some m), .bool false, .int .u64 0, .int .i64 0]
/-- A session that begins anew: its map. -/
theorem begun_any (w : World) : Calls Tryd.prog 33 #[] w fun e w' => ∃ m, e = .returned (sesV m) ∧ Below w.heap.size w w' ∧ w.heap.size ≤ m ∧ w'.heap[m]? = some (.map #[] 0) := by
  have hmm := @run_makeMap Tryd.prog
  go_enter Tryd.func33, Tryd.ntmps33
  go_wp2
  refine bodyPost_ret (v := sesV (w.heap.size + 1)) (by simp [results, Tryd.results33, go_sem]) rfl ⟨_, rfl, ?_, by omega, ?_⟩
  · exact ((Below.refl _ w).alloc (Nat.le_refl _) _).alloc (by simp) _
  · have := World.alloc_heap_new (w.alloc (.cells #[.int .u32 0, .slice none 0 0, .int .u32 0, .int .u64 0, .map (some (w.heap.size + 1)), .bool false, .int .u64 0, .int .i64 0] 99)) (.map #[] 0)
    rw [World.size_alloc] at this
    exact this
theorem MapV.empty {κ : Type} {w : World} {k : TypeId} {lit : κ → Lit} {m : Nat} (h : w.heap[m]? = some (.map #[] 0)) : MapV w k lit m 0 (fun _ => none) := by
  have h0 := MapV.made w k lit
  obtain ⟨D, ho, h1, h2⟩ := h0
  obtain ⟨es, clock, hb, F, hs, hD⟩ := ho
  rw [World.alloc_heap_new] at hb
  injection hb with hb
  injection hb with e1 e2
  subst e1 e2
  exact ⟨D, ⟨_, _, h, F, hs, hD⟩, h1, h2⟩
theorem ErlAt.empty {w : World} {T : Nat → Prop} {m : Nat} (h : w.heap[m]? = some (.map #[] 0)) : ErlAt w T m 0 (fun _ => none) := ⟨fun _ => none, fun _ => rfl, MapV.empty h, fun n e he => by cases he⟩
theorem OpnAt.empty (w : World) (T : Nat → Prop) : OpnAt w T (.slice none 0 0) [] := ⟨World.ownsRow_nil _ _ _ _, fun e he => by cases he⟩

/-- What New needs of two numbers. -/
def robs (self peer : Int) (ep : Nat) : Bool := isR self && isR peer && (self != peer) && (ep != 0)
set_option maxHeartbeats 1000000 in
theorem new_bad (w : World) {self peer : Int} {ep b c : Nat} (hr : robs self peer ep = false) :
    Calls Tryd.prog 9 #[.int .i64 self, .int .i64 peer, .int .u32 (ep : Nat), ruV b c] w fun e w' => e = .returned (.tuple #[.pointer none, .int .i64 2]) ∧ Below w.heap.size w w' := by
  have HB : Hid (∀ o, Below w.heap.size w (w.alloc o)) := fun o => (Below.refl _ w).alloc (Nat.le_refl _) o
  unfold robs at hr
  cases h1 : isR self
  · clear hr
    go_enter Tryd.func9, Tryd.ntmps9
    go_wp2_with ((with_reducible refine (lisRobot_any _ self).mono ?_); rintro e w' ⟨rfl, rfl⟩; rw [h1])
    refine bodyPost_ret (v := .tuple #[.pointer none, .int .i64 2]) (by simp [results, Tryd.results9, go_sem]) rfl ⟨rfl, HB.out _⟩
  · cases h2 : isR peer
    · clear hr
      go_enter Tryd.func9, Tryd.ntmps9
      go_wp2_with (first | ((with_reducible refine (lisRobot_any _ self).mono ?_); rintro e w' ⟨rfl, rfl⟩; rw [h1]) | ((with_reducible refine (lisRobot_any _ peer).mono ?_); rintro e w' ⟨rfl, rfl⟩; rw [h2]))
      refine bodyPost_ret (v := .tuple #[.pointer none, .int .i64 2]) (by simp [results, Tryd.results9, go_sem]) rfl ⟨rfl, HB.out _⟩
    · by_cases h3 : self = peer
      · subst h3
        clear hr
        go_enter Tryd.func9, Tryd.ntmps9
        go_wp2_with ((with_reducible refine (lisRobot_any _ self).mono ?_); rintro e w' ⟨rfl, rfl⟩; rw [h1])
        refine bodyPost_ret (v := .tuple #[.pointer none, .int .i64 2]) (by simp [results, Tryd.results9, go_sem]) rfl ⟨rfl, HB.out _⟩
      · have h4 : (self == peer) = false := by simpa using h3
        have h5 : (self != peer) = true := by simpa using h3
        rw [h1, h2, h5] at hr
        obtain rfl : ep = 0 := by simpa using hr
        clear hr
        go_enter Tryd.func9, Tryd.ntmps9
        go_wp2_with (first | ((with_reducible refine (lisRobot_any _ self).mono ?_); rintro e w' ⟨rfl, rfl⟩; rw [h1]) | ((with_reducible refine (lisRobot_any _ peer).mono ?_); rintro e w' ⟨rfl, rfl⟩; rw [h2]))
        refine bodyPost_ret (v := .tuple #[.pointer none, .int .i64 2]) (by simp [results, Tryd.results9, go_sem]) rfl ⟨rfl, HB.out _⟩
set_option maxHeartbeats 1000000 in
theorem new_rule (w : World) {self peer : Int} {ep b c : Nat} (hr : robs self peer ep = true) (hk : okR b c = false) :
    Calls Tryd.prog 9 #[.int .i64 self, .int .i64 peer, .int .u32 (ep : Nat), ruV b c] w fun e w' => e = .returned (.tuple #[.pointer none, .int .i64 90]) ∧ Below w.heap.size w w' := by
  have HB : Hid (∀ o p, Below w.heap.size w ((w.alloc o).alloc p)) := fun o p => ((Below.refl _ w).alloc (Nat.le_refl _) o).alloc (by simp) p
  unfold robs at hr
  simp only [Bool.and_eq_true] at hr
  obtain ⟨⟨⟨h1, h2⟩, h3⟩, h4⟩ := hr
  have h5 : (self == peer) = false := by simpa using h3
  have h6 : ((ep : Int) == 0) = false := by
    have : ep ≠ 0 := by simpa using h4
    have : ¬ (ep : Int) = 0 := by omega
    simpa using this
  have he : erI b c = 90 := by unfold erI; rw [hk]; rfl
  have HK := Lib.hid he
  clear h3 h4 he hk
  go_enter Tryd.func9, Tryd.ntmps9
  go_wp2_with (first | ((with_reducible refine (lisRobot_any _ self).mono ?_); rintro e w' ⟨rfl, rfl⟩; rw [h1]) | ((with_reducible refine (lisRobot_any _ peer).mono ?_); rintro e w' ⟨rfl, rfl⟩; rw [h2]) | ((with_reducible refine (acheck_any _ b c).mono ?_); rintro e w' ⟨rfl, rfl⟩; rw [HK.out]))
  refine bodyPost_ret (v := .tuple #[.pointer none, .int .i64 90]) (by simp [results, Tryd.results9, go_sem]) rfl ⟨rfl, HB.out _ _⟩
theorem newE_of {self peer : Int} {ep b c : Nat} (hr : robs self peer ep = true) (hk : okR b c = true) : Lk.newE self peer ep b c = 0 := by
  unfold Lk.newE
  unfold robs at hr
  have : Lk.okRl b c = true := hk
  rw [hr, this]; rfl
end Go.Proofs.YtfgajjfcjlejmaaDoor
