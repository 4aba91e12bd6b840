/-
  Whether calls are too many; two packets, the same or not.
-/
import Derived.Test.YtinihggcibghaaaBb
import Derived.Test.YtinihggcibghaaaB1
import Derived.Laws.IdiomStrings
import Derived.Laws.BytesString
import Derived.Lib.SlicesS
namespace Go.Proofs.Ytinihggcibghaaa
set_option maxRecDepth 100000
set_option linter.unusedSimpArgs false
open Go Go.RowKit Bg
attribute [local go_sem] Oper.semAt_some

set_option maxHeartbeats 2000000 in
theorem great_any {w : World} {A : Option Addr} {l : List Cl} (cap : Nat) (h : OpsAt w A l) (hl : l.length ≤ maxLen) :
    Calls Try.prog 10 #[.slice A l.length cap] w fun e w' => ((e = .returned (.int .i64 0) ∧ Few l) ∨ e = .returned (.int .i64 1)) ∧ w = w' := by
  obtain ⟨P, hP⟩ : ∃ P : Ending → World → Prop, P = fun e w' => ((e = .returned (.int .i64 0) ∧ Few l) ∨ e = .returned (.int .i64 1)) ∧ w = w' := ⟨_, rfl⟩
  have H1 : Hid (P (.returned (.int .i64 1)) w) := by rw [hP]; exact ⟨.inr rfl, rfl⟩
  have H0 : Hid (Few l → P (.returned (.int .i64 0)) w) := by rw [hP]; exact fun h => ⟨.inl ⟨rfl, h⟩, rfl⟩
  rw [← hP]
  clear hP
  have HO := Lib.hid h
  clear h
  obtain ⟨L, hL⟩ : ∃ L, L = l.length := ⟨_, rfl⟩
  have HL := Lib.hid hL
  have hL9 : L ≤ 9223372036854775807 := by rw [hL]; simpa [maxLen] using hl
  rw [← hL]
  clear hL hl
  by_cases hbig : 120 < L
  · have d1 : (120 : Int) < (L : Int) := by omega
    go_enter Try.func10, Try.ntmps10
    go_wp2
    first | exact H1.out | (go_ret; exact H1.out)
  · have d1 : ¬ (120 : Int) < (L : Int) := by omega
    go_enter Try.func10, Try.ntmps10
    go_wp2
    go_loopw [10, 3] (fun i m wr => ∃ (j k : Nat), j ≤ L ∧ i = .int .i64 (j : Int) ∧ m = .int .i64 (k : Int) ∧ k ≤ j ∧ wr = w ∧ ∀ q, q < j → (l.getD q default).d.length ≤ 60 ∧ (l.getD q default).many ≤ 300) (fun i _ _ => L - (intOf i).toNat)
    case atStart => exact ⟨0, 0, by omega, rfl, rfl, by omega, rfl, fun q hq => by omega⟩
    case round =>
      obtain ⟨j, k, hj, rfl, rfl, hk, rfl, hq⟩ := hrel
      have HQ := Lib.hid hq
      clear hq
      by_cases hlt : j < L
      · obtain ⟨a, rfl, ⟨_, _, _, c3, _, c5⟩, _⟩ := HO.out j (by rw [← HL.out]; exact hlt)
        have HST : Hid (∀ q, q < j + 1 → q < j ∨ q = j) := fun q h => by omega
        have HS2 : Hid ((l.getD j default).d.length ≤ 60 → (l.getD j default).many ≤ 300 → ∀ q, q < j + 1 → (l.getD q default).d.length ≤ 60 ∧ (l.getD q default).many ≤ 300) := fun h1 h2 q h => by
          rcases HST.out q h with h | h
          · exact HQ.out q h
          · subst h; exact ⟨h1, h2⟩
        generalize (l.getD j default).d.length = dl at *
        generalize (l.getD j default).many = mn at *
        generalize (l.getD j default).A = Ad at *
        generalize (l.getD j default).cap = cp at *
        have j0 : (0 : Int) ≤ (j : Int) := by omega
        have j1 : (j : Int) < (L : Int) := by omega
        by_cases h60 : 60 < dl
        · have d2 : (60 : Int) < (dl : Int) := by omega
          go_wp2
          first | exact H1.out | (go_ret; exact H1.out)
        · have d2 : ¬ (60 : Int) < (dl : Int) := by omega
          by_cases h300 : 300 < mn
          · go_wp2
            first | exact H1.out | (go_ret; exact H1.out)
          · by_cases h1m : 1 < mn
            · have HS3 := Lib.hid (HS2.out (by omega) (by omega))
              go_wp2
              go_roundw
              case rel => exact ⟨j + 1, k + 1, by omega, by go_num, by go_num, by omega, by first | rfl | trivial, HS3.out⟩
              case measure => simp [intOf]; omega
            · have HS3 := Lib.hid (HS2.out (by omega) (by omega))
              go_wp2
              go_roundw
              case rel => exact ⟨j + 1, k, by omega, by go_num, rfl, by omega, by first | rfl | trivial, HS3.out⟩
              case measure => simp [intOf]; omega
      · obtain rfl : j = L := by omega
        have HF : Hid (P (.returned (.int .i64 0)) wr) := H0.out ⟨by rw [← HL.out]; omega, fun k hk => HQ.out k (by rw [HL.out]; exact hk)⟩
        by_cases h3 : 3 < k
        · have d3 : (3 : Int) < (k : Int) := by omega
          go_wp2
          first | exact H1.out | (go_ret; exact H1.out)
        · have d3 : ¬ (3 : Int) < (k : Int) := by omega
          go_wp2
          first | exact HF.out | (go_ret; exact HF.out)

def strN (l : List Nat) : ByteArray := ⟨(l.map UInt8.ofNat).toArray⟩
theorem strN_inj {l m : List Nat} (hl : ∀ c ∈ l, c < 256) (hm : ∀ c ∈ m, c < 256) (h : strN l = strN m) : l = m := by
  unfold strN at h
  have h1 : l.map UInt8.ofNat = m.map UInt8.ofNat := by
    have := congrArg ByteArray.data h
    simpa using this
  have h2 : ∀ x : List Nat, (∀ c ∈ x, c < 256) → (x.map UInt8.ofNat).map UInt8.toNat = x := by
    intro x hx
    rw [List.map_map]
    conv => rhs; rw [← List.map_id x]
    refine List.map_congr_left (fun c hc => ?_)
    have := hx c hc
    simp [Nat.mod_eq_of_lt this]
  rw [← h2 l hl, ← h2 m hm, h1]
theorem conv_bytes {w : World} {A : Option Addr} {l : List Nat} (cap : Nat) (h : BytesAt w A l) (hlt : ∀ c ∈ l, c < 256) :
    (convert 34 9 (.slice A l.length cap)).run Try.prog w = .ok (.string (strN l)) w := by
  have h1 : Try.prog.underlying 34 = some (.slice 5) := by kernel_rfl
  have h2 : Try.prog.underlying 5 = some (.int .u8) := by kernel_rfl
  have h3 : Try.prog.underlying 9 = some .string := by kernel_rfl
  cases A with
  | none =>
    have hl : l = [] := by
      cases l with
      | nil => rfl
      | cons c l => obtain ⟨a, ha, _⟩ := h 0 (by simp); cases ha
    subst hl
    exact run_convert_bytes_nil w _ _ h1 h2 _ _ _ h3
  | some a =>
    have := run_convert_bytes_back w _ _ _ a cap (l.map UInt8.ofNat) h1 h2 h3 (by
      intro j hj
      rw [List.length_map] at hj
      obtain ⟨a', ha, hc⟩ := h j hj
      cases ha
      rw [hc]
      have hlt' := hlt _ (List.getElem_mem hj)
      simp [byV, List.getD, hj, Nat.mod_eq_of_lt hlt'])
    rw [List.length_map] at this
    exact this

set_option maxHeartbeats 2000000 in
theorem same_any {w : World} (x y : Fl) {A B : Option Addr} (ca cb : Nat) (hA : BytesAt w A x.d) (hB : BytesAt w B y.d) (hx : ∀ c ∈ x.d, c < 256) (hy : ∀ c ∈ y.d, c < 256) :
    Calls Try.prog 15 #[flA x (.slice A x.d.length ca), flA y (.slice B y.d.length cb)] w fun e w' => e = .returned (.bool (decide (x = y))) ∧ Below w.heap.size w w' := by
  obtain ⟨P, hP⟩ : ∃ P : Ending → World → Prop, P = fun e w' => e = .returned (.bool (decide (x = y))) ∧ Below w.heap.size w w' := ⟨_, rfl⟩
  have HF : Hid (x ≠ y → ∀ X Y, P (.returned (.bool false)) ((w.alloc X).alloc Y)) := fun h X Y => by
    rw [hP]; exact ⟨by rw [decide_eq_false h], ((Below.refl _ w).alloc (Nat.le_refl _) _).alloc (by simp) _⟩
  have HT : Hid (x = y → ∀ X Y, P (.returned (.bool true)) ((w.alloc X).alloc Y)) := fun h X Y => by
    rw [hP]; exact ⟨by rw [decide_eq_true h], ((Below.refl _ w).alloc (Nat.le_refl _) _).alloc (by simp) _⟩
  rw [← hP]
  clear hP
  have hc1 : ∀ X Y, (convert 34 9 (.slice A x.d.length ca)).run Try.prog ((w.alloc X).alloc Y) = .ok (.string (strN x.d)) ((w.alloc X).alloc Y) := fun X Y => conv_bytes ca (hA.below (((Below.refl _ w).alloc (Nat.le_refl _) _).alloc (by simp) _)) hx
  have hc2 : ∀ X Y, (convert 34 9 (.slice B y.d.length cb)).run Try.prog ((w.alloc X).alloc Y) = .ok (.string (strN y.d)) ((w.alloc X).alloc Y) := fun X Y => conv_bytes cb (hB.below (((Below.refl _ w).alloc (Nat.le_refl _) _).alloc (by simp) _)) hy
  have HI : Hid (strN x.d = strN y.d → x.d = y.d) := strN_inj hx hy
  clear hA hB hx hy
  obtain ⟨n1, f1, t1, d1, s1⟩ := x
  obtain ⟨n2, f2, t2, d2, s2⟩ := y
  simp only [flA] at *
  by_cases h1 : n1 = n2
  · by_cases h2 : f1 = f2
    · by_cases h3 : t1 = t2
      · by_cases h4 : d1 = d2
        · subst h1 h2 h3 h4
          cases s1 <;> cases s2
          · have HZ := Lib.hid (HT.out rfl)
            clear HT HF
            generalize strN d1 = S1 at *
            generalize d1.length = L1 at *
            go_enter Try.func15, Try.ntmps15
            go_wp2
            first | exact HZ.out _ _ | (go_ret; exact HZ.out _ _)
          · have HZ := Lib.hid (HF.out (by simp))
            clear HT HF
            generalize strN d1 = S1 at *
            generalize d1.length = L1 at *
            go_enter Try.func15, Try.ntmps15
            go_wp2
            first | exact HZ.out _ _ | (go_ret; exact HZ.out _ _)
          · have HZ := Lib.hid (HF.out (by simp))
            clear HT HF
            generalize strN d1 = S1 at *
            generalize d1.length = L1 at *
            go_enter Try.func15, Try.ntmps15
            go_wp2
            first | exact HZ.out _ _ | (go_ret; exact HZ.out _ _)
          · have HZ := Lib.hid (HT.out rfl)
            clear HT HF
            generalize strN d1 = S1 at *
            generalize d1.length = L1 at *
            go_enter Try.func15, Try.ntmps15
            go_wp2
            first | exact HZ.out _ _ | (go_ret; exact HZ.out _ _)
        · have HZ := Lib.hid (HF.out (by simp [h4]))
          have hne : ¬ strN d1 = strN d2 := fun e => h4 (HI.out e)
          have hne2 : ((strN d1).toList == (strN d2).toList) = false := (Lib.bytes_beq_false_iff _ _).2 hne
          subst h1 h2 h3
          clear HT HF HI h4
          generalize strN d1 = S1 at *
          generalize strN d2 = S2 at *
          generalize d1.length = L1 at *
          generalize d2.length = L2 at *
          go_enter Try.func15, Try.ntmps15
          go_wp2
          first | exact HZ.out _ _ | (go_ret; exact HZ.out _ _)
      · have HZ := Lib.hid (HF.out (by simp [h3]))
        have d5 : (t1 == t2) = false := by simpa using h3
        subst h1 h2
        clear HT HF HI
        generalize d1.length = L1 at *
        generalize d2.length = L2 at *
        go_enter Try.func15, Try.ntmps15
        go_wp2
        first | exact HZ.out _ _ | (go_ret; exact HZ.out _ _)
    · have HZ := Lib.hid (HF.out (by simp [h2]))
      have d5 : (f1 == f2) = false := by simpa using h2
      subst h1
      clear HT HF HI
      generalize d1.length = L1 at *
      generalize d2.length = L2 at *
      go_enter Try.func15, Try.ntmps15
      go_wp2
      first | exact HZ.out _ _ | (go_ret; exact HZ.out _ _)
  · have HZ := Lib.hid (HF.out (by simp [h1]))
    have d5 : (n1 == n2) = false := by simpa using h1
    clear HT HF HI
    generalize d1.length = L1 at *
    generalize d2.length = L2 at *
    go_enter Try.func15, Try.ntmps15
    go_wp2
    first | exact HZ.out _ _ | (go_ret; exact HZ.out _ _)
end Go.Proofs.Ytinihggcibghaaa
