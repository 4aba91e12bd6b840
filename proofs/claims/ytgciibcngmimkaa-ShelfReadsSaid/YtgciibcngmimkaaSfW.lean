/-
  Lists of records as the document's functions want them; its Check, its ahead; the law ShelfReads but for the document's Read.
-/
import Derived.Test.YtgciibcngmimkaaSfV
namespace Go.Proofs.Ytgciibcngmimkaa
set_option maxRecDepth 100000
set_option linter.unusedSimpArgs false
open Go Go.RowKit Sf

def csK (ks : List Rc) : List Value := ks.flatMap fun x => [.int .i64 x.r.k, .int .i64 x.r.n, .slice x.A x.r.d.length x.cap]
theorem csK_cons (x : Rc) (t : List Rc) : csK (x :: t) = .int .i64 x.r.k :: .int .i64 x.r.n :: .slice x.A x.r.d.length x.cap :: csK t := rfl
theorem csK_snoc (t : List Rc) (x : Rc) : csK (t ++ [x]) = csK t ++ [.int .i64 x.r.k, .int .i64 x.r.n, .slice x.A x.r.d.length x.cap] := by simp [csK]
theorem csK_at (ks : List Rc) : ∀ i, i < ks.length → (csK ks)[i * 3]? = some (.int .i64 (ks.getD i default).r.k) ∧ (csK ks)[i * 3 + 1]? = some (.int .i64 (ks.getD i default).r.n) ∧ (csK ks)[i * 3 + 2]? = some (.slice (ks.getD i default).A (ks.getD i default).r.d.length (ks.getD i default).cap) := by
  induction ks with
  | nil => intro i hi; cases hi
  | cons x t ih =>
    intro i hi
    cases i with
    | zero => exact ⟨rfl, rfl, rfl⟩
    | succ i =>
      obtain ⟨h1, h2, h3⟩ := ih i (by simp at hi; omega)
      rw [csK_cons, show (i + 1) * 3 = i * 3 + 1 + 1 + 1 by omega, show i * 3 + 1 + 1 + 1 + 1 = (i * 3 + 1) + 1 + 1 + 1 by omega, show i * 3 + 1 + 1 + 1 + 2 = (i * 3 + 2) + 1 + 1 + 1 by omega]
      simp only [List.getElem?_cons_succ, List.getD_cons_succ]
      exact ⟨h1, h2, h3⟩
/-- Records in a row of somebody's own. -/
theorem row_rs {W : World} {B : Nat} {v : Value} {ks : List Rc} (h : W.ownsRow B 32 3 v ks.length (csK ks)) (hr : ∀ x ∈ ks, RecOk W x.r x.A x.cap) : ∃ A cap, v = .slice A ks.length cap ∧ RsAt W A ks ∧ ks.length ≤ cap := by
  rcases h.2 with ⟨rfl, h0⟩ | ⟨g, cap, cur, rfl, hb, hg, hle, hmx, hsz, htk⟩
  · exact ⟨none, 0, by rw [h0], fun j hj => by omega, by omega⟩
  · refine ⟨_, cap, rfl, fun j hj => ⟨_, rfl, ?_, ?_⟩, hle⟩
    · obtain ⟨h1, h2, h3⟩ := csK_at ks j hj
      have e : ∀ q, (⟨((⟨g, 0, none⟩ : Addr).add (j * 3)).block, ((⟨g, 0, none⟩ : Addr).add (j * 3)).off + q, none⟩ : Addr) = (⟨g, 0, none⟩ : Addr).add (j * 3 + q) := fun q => by
        by_cases h0 : j * 3 = 0
        · simp [Addr.add, h0] <;> (intros; omega)
        · simp [Addr.add, h0] <;> (intros; omega)
      refine ⟨h.cells rfl (j * 3) _ h1, ?_, ?_⟩
      · rw [e 1]; exact h.cells rfl (j * 3 + 1) _ h2
      · rw [e 2]; exact h.cells rfl (j * 3 + 2) _ h3
    · have : ks.getD j default = ks[j] := by simp [List.getD, hj]
      rw [this]; exact hr _ (List.getElem_mem _)
theorem rcp_ks {W : World} {xs : List (Ent × Value)} (h : ∀ x ∈ xs, R8 W x.2 x.1.2) (hok : ∀ x ∈ xs, OkE x.1) : ∃ ks : List Rc, csK ks = csR xs ∧ ks.map (·.r) = (xs.map (·.1)).map toR ∧ (∀ x ∈ ks, RecOk W x.r x.A x.cap) ∧ ks.length = xs.length := by
  induction xs with
  | nil => exact ⟨[], rfl, rfl, fun x hx => (by cases hx), rfl⟩
  | cons x t ih =>
    obtain ⟨ks, h1, h2, h3, h4⟩ := ih (fun y hy => h y (by simp [hy])) (fun y hy => hok y (by simp [hy]))
    obtain ⟨A, cap, e, g1, g2, g3, g4⟩ := row_bytes (h x (by simp))
    refine ⟨⟨toR x.1, A, cap⟩ :: ks, ?_, by simp [h2], ?_, by simp [h4]⟩
    · rw [csK_cons, h1]
      show _ = [_, _, x.2] ++ csR t
      rw [e]
      rfl
    · intro y hy
      rcases List.mem_cons.1 hy with rfl | hy
      · exact ⟨g1, g4, (hok x (by simp)).by_⟩
      · exact h3 y hy
/-- What All answers, as the document's Same wants it. -/
theorem all_rs {w : World} {p0 : Option Addr} {M : List Ent} (h : ShP w p0 M) : Calls Try.prog 16 #[.pointer p0] w fun e w' => ∃ A ks cap, e = .returned (.slice A ks.length cap) ∧ RsM w' A ks M ∧ ks.length ≤ cap ∧ Below w.heap.size w w' := by
  refine (all_any h).mono ?_
  rintro e w' ⟨v, xs, rfl, hm, ⟨ho, h8⟩, hb⟩
  have hok : ∀ x ∈ xs, OkE x.1 := fun x hx => h.ok.each _ (by rw [← hm]; exact List.mem_map_of_mem hx)
  obtain ⟨ks, h1, h2, h3, h4⟩ := rcp_ks h8 hok
  rw [← h1, ← h4] at ho
  obtain ⟨A, cap, rfl, h5, h6⟩ := row_rs ho h3
  exact ⟨A, ks, cap, rfl, ⟨h5, by rw [h2, hm], h.ok.each, h.ok.len⟩, h6, hb⟩
set_option maxHeartbeats 1000000 in
theorem rcheck_any (w : World) (k n : Int) (A : Option Addr) (len cap : Nat) :
    Calls Try.prog 13 #[recA k n A len cap] w fun e w' => e = .returned (ckV k n len) ∧ w' = w.alloc (recO k n A len cap) := by
  obtain ⟨P, hP⟩ : ∃ P : Ending → World → Prop, P = fun e w' => e = .returned (ckV k n len) ∧ w' = w.alloc (recO k n A len cap) := ⟨_, rfl⟩
  have HB : Hid ((k < 0 ∨ 255 < k ∨ n < 0 ∨ 1024 < n ∨ 1024 < len) → P (.returned (.int .i64 130)) (w.alloc (recO k n A len cap))) := by
    intro h; rw [hP]
    have : ckB k n len = false := by
      rw [← Bool.not_eq_true]; unfold ckB; simp only [Bool.and_eq_true, decide_eq_true_eq]; omega
    exact ⟨by rw [ckV, this]; rfl, rfl⟩
  have HG : Hid ((0 ≤ k ∧ k ≤ 255 ∧ 0 ≤ n ∧ n ≤ 1024 ∧ len ≤ 1024) → P (.returned (.int .i64 0)) (w.alloc (recO k n A len cap))) := by
    intro h; rw [hP]
    have : ckB k n len = true := by unfold ckB; simp only [Bool.and_eq_true, decide_eq_true_eq]; omega
    exact ⟨by rw [ckV, this]; rfl, rfl⟩
  rw [← hP]
  clear hP
  by_cases h1 : k < 0
  · have HF := Lib.hid (HB.out (.inl h1))
    have e1 : decide (k < 0) = true := by simpa using h1
    clear HB HG h1
    go_enter Try.func13, Try.ntmps13
    go_wp2
    exact HF.out
  have e1 : decide (k < 0) = false := by simpa using h1
  by_cases h2 : 255 < k
  · have HF := Lib.hid (HB.out (.inr (.inl h2)))
    have e2 : decide (255 < k) = true := by simpa using h2
    clear HB HG h1 h2
    go_enter Try.func13, Try.ntmps13
    go_wp2
    exact HF.out
  have e2 : decide (255 < k) = false := by simpa using h2
  by_cases h3 : n < 0
  · have HF := Lib.hid (HB.out (.inr (.inr (.inl h3))))
    have e3 : decide (n < 0) = true := by simpa using h3
    clear HB HG h1 h2 h3
    go_enter Try.func13, Try.ntmps13
    go_wp2
    exact HF.out
  have e3 : decide (n < 0) = false := by simpa using h3
  by_cases h4 : 1024 < n
  · have HF := Lib.hid (HB.out (.inr (.inr (.inr (.inl h4)))))
    have e4 : decide (1024 < n) = true := by simpa using h4
    clear HB HG h1 h2 h3 h4
    go_enter Try.func13, Try.ntmps13
    go_wp2
    exact HF.out
  have e4 : decide (1024 < n) = false := by simpa using h4
  by_cases h5 : 1024 < len
  · have HF := Lib.hid (HB.out (.inr (.inr (.inr (.inr h5)))))
    have e5 : decide (1024 < (len : Int)) = true := by simp; omega
    have e5' : decide (1024 < len) = true := by simpa using h5
    clear HB HG h1 h2 h3 h4 h5
    go_enter Try.func13, Try.ntmps13
    go_wp2
    exact HF.out
  · have HF := Lib.hid (HG.out ⟨by omega, by omega, by omega, by omega, by omega⟩)
    have e5 : decide (1024 < (len : Int)) = false := by simp; omega
    have e5' : decide (1024 < len) = false := by simpa using h5
    clear HB HG h1 h2 h3 h4 h5
    go_enter Try.func13, Try.ntmps13
    go_wp2
    exact HF.out
/-- Does a record stand ahead of another one? -/
def ahD (k1 n1 k2 n2 : Int) : Bool := decide (k1 < k2) || (decide (k1 = k2) && decide (n1 < n2))
set_option maxHeartbeats 1000000 in
theorem ahead_any (w : World) (k1 n1 k2 n2 : Int) (A B : Option Addr) (l1 c1 l2 c2 : Nat) :
    Calls Try.prog 29 #[recA k1 n1 A l1 c1, recA k2 n2 B l2 c2] w fun e w' => e = .returned (.bool (ahD k1 n1 k2 n2)) ∧ Below w.heap.size w w' := by
  have HB : Hid (Below w.heap.size w ((w.alloc (recO k1 n1 A l1 c1)).alloc (recO k2 n2 B l2 c2))) := Lib.hid (((Below.refl _ w).alloc (Nat.le_refl _) _).alloc (by simp) _)
  unfold ahD
  by_cases h1 : k1 < k2
  · have d1 : decide (k1 < k2) = true := by simpa using h1
    go_enter Try.func29, Try.ntmps29
    go_wp2
    go_ret
    exact ⟨by simp [d1], HB.out⟩
  · have d1 : decide (k1 < k2) = false := by simpa using h1
    by_cases h2 : k1 = k2
    · subst h2
      by_cases h3 : n1 < n2
      · have d3 : decide (n1 < n2) = true := by simpa using h3
        go_enter Try.func29, Try.ntmps29
        go_wp2
        go_ret
        exact ⟨by simp [d1, d3], HB.out⟩
      · have d3 : decide (n1 < n2) = false := by simpa using h3
        go_enter Try.func29, Try.ntmps29
        go_wp2
        go_ret
        exact ⟨by simp [d1, d3], HB.out⟩
    · have d2 : (k1 == k2) = false := by simpa using h2
      have d2' : decide (k1 = k2) = false := by simpa using h2
      go_enter Try.func29, Try.ntmps29
      go_wp2
      go_ret
      exact ⟨by simp [d1, d2'], HB.out⟩
/-- What the document's Read leaves. -/
def RrQ (w : World) (l : List Nat) (e : Ending) (w' : World) : Prop :=
  Below w.heap.size w w' ∧ ((rdA l = none ∧ e = .returned (.tuple #[.slice none 0 0, .int .i64 131])) ∨ ∃ M A ks cap, rdA l = some M ∧ e = .returned (.tuple #[.slice A ks.length cap, .int .i64 0]) ∧ RsM w' A ks M)
set_option maxHeartbeats 4000000 in
/-- The law, the document's Read given. -/
theorem reads_any {w : World} {A : Option Addr} {l : List Nat} {cap : Nat} (h : BsOk w A l cap) (hmx : l.length ≤ maxLen)
    (hR : l.length ≤ 4000 → ∀ W, Below w.heap.size w W → Calls Try.prog 25 #[.slice A l.length cap] W (RrQ W l)) :
    Calls Try.prog 4 #[.slice A l.length cap] w fun e w' => e = .returned (.bool true) ∧ Below w.heap.size w w' := by
  have hmm : maxLen < 9223372036854775808 := by decide
  have HRd : Hid (l.length ≤ 4000 → Calls Try.prog 24 #[.slice A l.length cap] w (RdQ w l)) := Lib.hid (fun h4 => read_any h (by omega))
  have HRr := Lib.hid hR
  have hL9 : l.length < 9223372036854775808 := by omega
  have HB0 : Hid (Below w.heap.size w w) := Lib.hid (Below.refl _ w)
  obtain ⟨L, hL⟩ : ∃ L, L = l.length := ⟨_, rfl⟩
  rw [← hL] at HRd HRr hL9 ⊢
  clear hL hmm hmx hR h
  by_cases h4 : 4000 < L
  · go_enter Try.func4, Try.ntmps4
    go_wp2
    go_ret
    exact ⟨rfl, HB0.out⟩
  have H1 := Lib.hid (HRd.out (by omega))
  go_enter Try.func4, Try.ntmps4
  go_wp2_with fail
  (with_reducible refine H1.out.mono ?_)
  rintro e W1 ⟨hb, hq⟩
  have HB1 := Lib.hid hb
  have H2 := Lib.hid (HRr.out (by omega) W1 hb)
  clear hb H1 HRd HRr
  rcases hq with ⟨hq, rfl⟩ | ⟨M, bs, mo, N, hq, rfl, hs, _, _⟩
  · have H3 : Hid (Calls Try.prog 25 #[.slice A L cap] W1 fun e w' => e = .returned (.tuple #[.slice none 0 0, .int .i64 131]) ∧ Below w.heap.size w w') := Lib.hid (H2.out.mono (fun e w' ⟨hb, h3⟩ => by
      rcases h3 with ⟨_, h3⟩ | ⟨M, _, _, _, h3, _⟩
      · exact ⟨h3, HB1.out.trans (hb.mono HB1.out.size)⟩
      · rw [hq] at h3; cases h3))
    clear hq H2
    go_wp2_with fail
    (with_reducible refine H3.out.mono ?_)
    rintro e W2 ⟨rfl, hb⟩
    have HB2 := Lib.hid hb
    clear hb H3
    go_wp2
    go_ret
    exact ⟨rfl, HB2.out⟩
  · have HS := Lib.hid hs
    have H3 : Hid (Calls Try.prog 25 #[.slice A L cap] W1 fun e w' => ∃ A2 ks c2, e = .returned (.tuple #[.slice A2 ks.length c2, .int .i64 0]) ∧ RsM w' A2 ks M ∧ Below w.heap.size w w' ∧ ShAt w' bs mo N M) := Lib.hid (H2.out.mono (fun e w' ⟨hb, h3⟩ => by
      rcases h3 with ⟨h3, _⟩ | ⟨M2, A2, ks, c2, h3, h5, h6⟩
      · rw [hq] at h3; cases h3
      · rw [hq] at h3
        injection h3 with h3
        subst h3
        exact ⟨A2, ks, c2, h5, h6, HB1.out.trans (hb.mono HB1.out.size), HS.out.below hb⟩))
    clear hq H2 hs HS
    go_wp2_with fail
    (with_reducible refine H3.out.mono ?_)
    rintro e W2 ⟨A2, ks, c2, rfl, hk, hb, hs⟩
    have HB2 := Lib.hid hb
    have HK := Lib.hid hk
    have HAl := Lib.hid (all_rs (ShP.of hs))
    clear hb H3 hk hs
    have HKL : Hid (∃ q, q = ks.length) := Lib.hid ⟨_, rfl⟩
    go_wp2_with fail
    (with_reducible refine HAl.out.mono ?_)
    rintro e W3 ⟨A3, k3, c3, rfl, hk3, _, hb⟩
    have HB3 := Lib.hid (HB2.out.trans (hb.mono HB2.out.size))
    have hsm := rsame_any c3 c2 hk3 (HK.out.below hb)
    rw [decide_eq_true rfl] at hsm
    have HSm := Lib.hid hsm
    clear hsm hk3 hb HAl
    go_wp2_with fail
    (with_reducible refine HSm.out.mono ?_)
    rintro e W4 ⟨rfl, hb⟩
    have HB4 := Lib.hid (HB3.out.trans (hb.mono HB3.out.size))
    clear hb
    go_wp2
    go_ret
    exact ⟨rfl, HB4.out⟩
end Go.Proofs.Ytgciibcngmimkaa
