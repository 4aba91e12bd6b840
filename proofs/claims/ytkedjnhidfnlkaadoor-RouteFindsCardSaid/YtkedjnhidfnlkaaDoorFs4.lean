/-
  RouteFinds: its walk.
-/
import Derived.Test.YtkedjnhidfnlkaaDoorFs3
import Derived.Test.YtkedjnhidfnlkaaDoorRn1
import Derived.Test.YtkedjnhidfnlkaaDoorGE
namespace Go.Proofs.YtkedjnhidfnlkaaDoor
set_option maxRecDepth 100000
set_option linter.unusedSimpArgs false
open Go Go.RowKit Rq

set_option maxHeartbeats 1000000 in
theorem rfind_bad {b g cap : Nat} {fr to_ : Int} {Q : List ByteArray} {w : World} {B : Option Addr} {ban : List Int} {n cb : Nat} (bud : Int) (h : RefAt w b g cap Q) (hg : Pure.Good (lsts Q)) (hb : (freeB (lsts Q).flatten fr && freeB (lsts Q).flatten to_) = false) :
    Calls Tryd.prog 15 #[.pointer (some ⟨b, 0, none⟩), .int .i64 fr, .int .i64 to_, .slice B n cb, .int .i64 bud] w (RFndP (findZ (lsts Q).length (Pure.wid (lsts Q)) (lsts Q).flatten fr to_ ban bud) w) := by
  have hz : findZ (lsts Q).length (Pure.wid (lsts Q)) (lsts Q).flatten fr to_ ban bud = ([], 2) := by unfold findZ; rw [hb]; rfl
  rw [hz]
  have HF1 := Lib.hid (rfree_any fr h hg)
  have HF2 : Hid (∀ n, Calls Tryd.prog 22 #[.pointer (some ⟨b, 0, none⟩), .int .i64 to_] (w.drewN n) fun e w'' => e = .returned (.bool (freeB (lsts Q).flatten to_)) ∧ ∃ k, w'' = (w.drewN n).drewN k) := fun n => rfree_any to_ (h.drewN n) hg
  have HP : Hid (∀ w', Below w.heap.size w w' → RFndP (([] : List Nat), (2 : Int)) w (.returned (.tuple #[.slice none 0 0, .int .i64 2])) w') := fun w' hw => ⟨_, rfl, World.ownsRow_nil _ _ _ _, hw⟩
  clear h hg hz
  generalize RFndP (([] : List Nat), (2 : Int)) w = P at *
  generalize freeB (lsts Q).flatten fr = f1 at *
  generalize freeB (lsts Q).flatten to_ = f2 at *
  cases f1 with
  | false =>
    go_enter Tryd.func15, Tryd.ntmps15
    go_wp2_with fail
    refine HF1.out.mono ?_
    rintro e w1 ⟨rfl, n1, hw1⟩
    have HF := Lib.hid (HP.out w1 (by rw [hw1]; exact bel_drewN (Below.refl _ _) n1))
    clear hw1
    clear HP HF1 HF2
    go_wp2
    first | exact HF.out | (go_ret2; exact HF.out) | (go_ret; exact HF.out)
  | true =>
    have hf2 : f2 = false := by simpa using hb
    subst hf2
    go_enter Tryd.func15, Tryd.ntmps15
    go_wp2_with fail
    refine HF1.out.mono ?_
    rintro e w1 ⟨rfl, n1, rfl⟩
    go_wp2_with fail
    refine (HF2.out n1).mono ?_
    rintro e w2 ⟨rfl, n2, hw2⟩
    have HF := Lib.hid (HP.out w2 (by rw [hw2]; exact bel_drewN (bel_drewN (Below.refl _ _) n1) n2))
    clear HP HF1 HF2 hw2
    go_wp2
    first | exact HF.out | (go_ret2; exact HF.out) | (go_ret; exact HF.out)

theorem rfind_any {b g cap : Nat} {fr to_ : Int} {Q : List ByteArray} {w : World} {B : Option Addr} {ban : List Int} {cb : Nat} (bud : Int) (h : RefAt w b g cap Q) (hg : Pure.Good (lsts Q)) (hB : IntsAt w B ban) (hbm : ban.length ≤ maxLen) :
    Calls Tryd.prog 15 #[.pointer (some ⟨b, 0, none⟩), .int .i64 fr, .int .i64 to_, .slice B ban.length cb, .int .i64 bud] w (RFndP (findZ (lsts Q).length (Pure.wid (lsts Q)) (lsts Q).flatten fr to_ ban bud) w) := by
  cases hb : freeB (lsts Q).flatten fr && freeB (lsts Q).flatten to_ with
  | false => exact rfind_bad bud h hg hb
  | true =>
    obtain ⟨h1, h2⟩ := Bool.and_eq_true_iff.1 hb
    obtain ⟨h3, h4⟩ := free_range h1
    obtain ⟨h5, h6⟩ := free_range h2
    obtain ⟨f, rfl⟩ := Int.eq_ofNat_of_zero_le h3
    obtain ⟨t, rfl⟩ := Int.eq_ofNat_of_zero_le h5
    exact rfind_ok bud h hg h1 h2 (by omega) (by omega) hB hbm

section
variable {w0 w w' : World} {bm gm cm br gr cr : Nat} {Q : List ByteArray} {B : Option Addr} {ban : List Int} {m cb : Nat} {fr to_ bud : Int}
abbrev hiQ (Q : List ByteArray) : Nat := (lsts Q).length
abbrev wdQ (Q : List ByteArray) : Nat := Pure.wid (lsts Q)
abbrev flQ (Q : List ByteArray) : List UInt8 := (lsts Q).flatten
theorem St.lt (h : St w0 bm gm cm br gr cr Q w) : bm < w.heap.size := World.block_lt_of_cell? w ⟨bm, 0, none⟩ h.em.c0
theorem st_find (h : St w0 bm gm cm br gr cr Q w) (hB : IntsAt w0 B ban) (hm : ban.length = m) (hbm : ban.length ≤ maxLen) {l : List Nat} {z : Int} (hz : findZ (lsts Q).length (Pure.wid (lsts Q)) (lsts Q).flatten fr to_ ban bud = (l, z)) {n : Nat} (hn : l.length = n) :
    Calls Tryd.prog 14 #[.pointer (some ⟨bm, 0, none⟩), .int .i64 fr, .int .i64 to_, .slice B m cb, .int .i64 bud] w fun e w' => ∃ a c, e = .returned (.tuple #[.slice a n c, .int .i64 z]) ∧ (St w0 bm gm cm br gr cr Q w' ∧ LstN bm w' (.slice a n c) l ∧ w.grownBy w' (some bm)) := by
  subst hm hn
  refine (finds_any h.em (hB.below h.bl (Nat.le_refl _)) hbm bud).mono ?_
  rw [hz]
  rintro e w' ⟨v, rfl, hx, ho⟩
  obtain ⟨a, c, rfl, hl⟩ := lstn_of (l := l) ho h.lt
  exact ⟨a, c, rfl, h.emx hx, hl, hx.grown⟩
theorem st_rfind (h : St w0 bm gm cm br gr cr Q w) (hB : IntsAt w0 B ban) (hm : ban.length = m) (hbm : ban.length ≤ maxLen) {l : List Nat} {z : Int} (hz : findZ (lsts Q).length (Pure.wid (lsts Q)) (lsts Q).flatten fr to_ ban bud = (l, z)) {n : Nat} (hn : l.length = n) :
    Calls Tryd.prog 15 #[.pointer (some ⟨br, 0, none⟩), .int .i64 fr, .int .i64 to_, .slice B m cb, .int .i64 bud] w fun e w' => ∃ a c, e = .returned (.tuple #[.slice a n c, .int .i64 z]) ∧ (St w0 bm gm cm br gr cr Q w' ∧ LstN bm w' (.slice a n c) l ∧ w.grownBy w' (some bm)) := by
  subst hm hn
  refine (rfind_any bud h.rf h.good (hB.below h.bl (Nat.le_refl _)) hbm).mono ?_
  rw [hz]
  rintro e w' ⟨v, rfl, ho, hb⟩
  obtain ⟨a, c, rfl, hl⟩ := lstn_of (l := l) ho h.lt
  exact ⟨a, c, rfl, h.below hb, hl, grown_of_below hb _⟩
theorem st_dist (h : St w0 bm gm cm br gr cr Q w) (hB : IntsAt w0 B ban) (hm : ban.length = m) (hbm : ban.length ≤ maxLen) {x z : Int} (hz : distZ (lsts Q).length (Pure.wid (lsts Q)) (lsts Q).flatten fr to_ ban = (x, z)) :
    Calls Tryd.prog 16 #[.pointer (some ⟨bm, 0, none⟩), .int .i64 fr, .int .i64 to_, .slice B m cb] w fun e w' => e = .returned (.tuple #[.int .i64 x, .int .i64 z]) ∧ (St w0 bm gm cm br gr cr Q w' ∧ w.grownBy w' (some bm)) := by
  subst hm
  refine (dists_any h.em (hB.below h.bl (Nat.le_refl _)) hbm).mono ?_
  rw [hz]
  rintro e w' ⟨rfl, hx⟩
  exact ⟨rfl, h.emx hx, hx.grown⟩
theorem st_looks (h : St w0 bm gm cm br gr cr Q w) (hB : IntsAt w0 B ban) (hm : ban.length = m) (hbm : ban.length ≤ maxLen) {x z : Int} (hz : looksZ (lsts Q).length (Pure.wid (lsts Q)) (lsts Q).flatten fr to_ ban = (x, z)) :
    Calls Tryd.prog 17 #[.pointer (some ⟨bm, 0, none⟩), .int .i64 fr, .int .i64 to_, .slice B m cb] w fun e w' => e = .returned (.tuple #[.int .i64 x, .int .i64 z]) ∧ (St w0 bm gm cm br gr cr Q w' ∧ w.grownBy w' (some bm)) := by
  subst hm
  refine (looks_any h.em (hB.below h.bl (Nat.le_refl _)) hbm).mono ?_
  rw [hz]
  rintro e w' ⟨rfl, hx⟩
  exact ⟨rfl, h.emx hx, hx.grown⟩
end

section
variable {R C : Nat} {ms : List UInt8} {ban : List Int} {fr to_ bud : Int}
theorem finds_len (hs : ms.length ≤ 1024) : (findZ R C ms fr to_ ban bud).1.length ≤ 1024 := by
  unfold findZ
  split
  · split
    · simp
    · split
      · simp
      · rename_i D hD
        have h1 := dsZ_lt hD
        have : (routeZ R C ms ban fr.toNat to_.toNat D).length = D + 1 := pthR_len _ _
        show (routeZ R C ms ban fr.toNat to_.toNat D).length ≤ 1024
        omega
  · simp
theorem finds_dist (hs : ms.length ≤ 1024) : distZ R C ms fr to_ ban = (((((findZ R C ms fr to_ ban 5000).1.length - 1 : Nat) : Int)), (findZ R C ms fr to_ ban 5000).2) := by
  have hl := looksN_le R C ms ban fr.toNat to_.toNat
  unfold findZ distZ
  by_cases hf : (freeB ms fr && freeB ms to_) = true
  · rw [if_pos hf, if_pos hf, if_neg (by omega)]
    cases dsZ R C ms ban fr.toNat to_.toNat fr.toNat with
    | none => rfl
    | some D =>
      have : (routeZ R C ms ban fr.toNat to_.toNat D).length = D + 1 := pthR_len _ _
      show ((D : Int), (0 : Int)) = ((((routeZ R C ms ban fr.toNat to_.toNat D).length - 1 : Nat) : Int), 0)
      rw [this]
      rfl
  · rw [if_neg hf, if_neg hf]
    rfl
theorem finds_two (hs : ms.length ≤ 1024) (h : (findZ R C ms fr to_ ban 5000).2 = 2) : looksZ R C ms fr to_ ban = (0, 2) := by
  have hl := looksN_le R C ms ban fr.toNat to_.toNat
  unfold looksZ
  by_cases hf : (freeB ms fr && freeB ms to_) = true
  · unfold findZ at h
    rw [if_pos hf, if_neg (by omega)] at h
    cases hd : dsZ R C ms ban fr.toNat to_.toNat fr.toNat with
    | none => rw [hd] at h; simp at h
    | some D => rw [hd] at h; simp at h
  · rw [if_neg hf]
theorem finds_not (h : (findZ R C ms fr to_ ban 5000).2 ≠ 2) : ∃ F T : Nat, fr = (F : Int) ∧ to_ = (T : Int) ∧ F < ms.length ∧ T < ms.length ∧ looksZ R C ms fr to_ ban = (((looksN R C ms ban F T : Nat) : Int), 0) := by
  by_cases hf : (freeB ms fr && freeB ms to_) = true
  · obtain ⟨h1, h2⟩ := Bool.and_eq_true_iff.1 hf
    obtain ⟨h3, h4⟩ := free_range h1
    obtain ⟨h5, h6⟩ := free_range h2
    obtain ⟨f, rfl⟩ := Int.eq_ofNat_of_zero_le h3
    obtain ⟨t, rfl⟩ := Int.eq_ofNat_of_zero_le h5
    refine ⟨f, t, rfl, rfl, by omega, by omega, ?_⟩
    unfold looksZ
    rw [if_pos hf]
    rfl
  · exact absurd (by unfold findZ; rw [if_neg hf]) h
end

set_option maxHeartbeats 400000 in
theorem rf_long (s : ByteArray) (fr to_ bud : Int) (B : Option Addr) (n cn : Nat) (w : World) (h : 230 < s.size ∨ 100 < n) :
    Calls Tryd.prog 3 #[.string s, .int .i64 fr, .int .i64 to_, .slice B n cn, .int .i64 bud] w fun e w' => e = .returned (.bool true) ∧ Below w.heap.size w w' := by
  by_cases h1 : 230 < s.size
  · clear h
    go_enter Tryd.func3, Tryd.ntmps3
    go_wp2_with fail
    go_ret
    exact ⟨rfl, Below.refl _ _⟩
  · have h2 : 100 < n := by omega
    clear h
    go_enter Tryd.func3, Tryd.ntmps3
    go_wp2_with fail
    go_ret
    exact ⟨rfl, Below.refl _ _⟩

set_option maxHeartbeats 1000000 in
theorem rf_bad (s : ByteArray) (fr to_ bud : Int) (B : Option Addr) (n cn : Nat) (w : World) (h1 : s.size ≤ 230) (h2 : n ≤ 100) {l c : Nat} (hv : Pure.verdict s.data.toList = .bad l c) :
    Calls Tryd.prog 3 #[.string s, .int .i64 fr, .int .i64 to_, .slice B n cn, .int .i64 bud] w fun e w' => e = .returned (.bool true) ∧ Below w.heap.size w w' := by
  have HP : Hid (∀ w, Calls Tryd.prog 12 #[.string s] w fun e w' => e = .returned (.tuple #[.pointer none, .int .i64 (l : Int), .int .i64 (c : Int), .int .i64 10]) ∧ Below w.heap.size w w') := by
    intro w
    refine (parse_any s w (by omega)).mono ?_
    rintro e w' ⟨h1, h2⟩
    rw [hv] at h2
    exact ⟨h2, h1⟩
  have HR : Hid (∀ w, Calls Tryd.prog 13 #[.string s] w fun e w' => e = .returned (.tuple #[.pointer none, .int .i64 (l : Int), .int .i64 (c : Int), .int .i64 10]) ∧ Below w.heap.size w w') := by
    intro w
    refine (ref_all s w (by omega)).mono ?_
    rintro e w' ⟨h1, h2⟩
    rw [hv] at h2
    exact ⟨h2, h1⟩
  clear hv
  go_enter Tryd.func3, Tryd.ntmps3
  go_wp2_with (first
    | (go_at_call 12; (with_reducible refine (HP.out _).mono ?_); rintro e w1 ⟨rfl, hb1⟩)
    | (go_at_call 13; (with_reducible refine (HR.out _).mono ?_); rintro e w2 ⟨rfl, hb2⟩))
  go_ret
  exact ⟨rfl, hb1.trans (hb2.mono hb1.size)⟩
end Go.Proofs.YtkedjnhidfnlkaaDoor
