/-
  The law WindowOrders: its walk.
-/
import Derived.Test.YtcbgadjnheagmaaDoorWiM
import Derived.Laws.AppendOwnNone
namespace Go.Proofs.YtcbgadjnheagmaaDoor
set_option maxRecDepth 100000
set_option linter.unusedSimpArgs false
open Go Go.RowKit

namespace Wd
theorem step_near {l e n : Nat} (h : Ok l e) (h0 : n ≠ 0) (hn : n ≤ 64) (m : Nat) : has (nl l e n) (ne l e n) m = (has l e m || decide (m = n)) := by
  rw [step_has h]
  by_cases h1 : has l e n = true
  · have hc : code l e n = 2 := by unfold code; rw [if_neg h0, if_pos h1]
    rw [hc]
    by_cases hm : m = n
    · subst hm; rw [h1]; rfl
    · simp [hm]
  · have hc : code l e n = 1 := by unfold code; rw [if_neg h0, if_neg h1, if_neg (by omega)]
    rw [hc]; simp
def mf (x : Nat) : Nat := 1 + x % 64
/-- The window met just these. -/
def Met (l e : Nat) (L : List Nat) : Prop := Ok l e ∧ ∀ m, has l e m = decide (m ∈ L.map mf)
theorem met_nil : Met 0 0 [] := ⟨ok_zero, fun m => by
  rcases Nat.eq_zero_or_pos m with rfl | h
  · rfl
  · rw [has_high h, Nat.zero_testBit]; rfl⟩
theorem Met.snoc {l e : Nat} {L : List Nat} (h : Met l e L) (x : Nat) : Met (nl l e (mf x)) (ne l e (mf x)) (L ++ [x]) := by
  have h1 : mf x ≠ 0 := by unfold mf; omega
  have h2 : mf x ≤ 64 := by unfold mf; omega
  refine ⟨step_ok h.1 (by omega), fun m => ?_⟩
  rw [step_near h.1 h1 h2, h.2, List.map_append, List.map_cons, List.map_nil]
  by_cases hm : m = mf x
  · subst hm; simp
  · simp [hm]
theorem Met.same {l e l' e' : Nat} {L M : List Nat} (h : Met l e L) (h' : Met l' e' M) (hp : M.Perm L) : l = l' ∧ e = e' :=
  ext h.1 h'.1 (fun n => by
    rw [h.2, h'.2]
    have := (hp.map mf).mem_iff (a := n)
    simp only [this])
theorem swap_perm {M : List Nat} {i k : Nat} (hi : i < M.length) (hk : k < M.length) : ((M.set i (M.getD k 0)).set k (M.getD i 0)).Perm M := by
  rw [List.getD_eq_getElem?_getD, List.getD_eq_getElem?_getD, List.getElem?_eq_getElem hi, List.getElem?_eq_getElem hk]
  exact List.set_set_perm hi hk
end Wd

theorem orders_out {w : World} {A B : Option Addr} {n ca m cb : Nat} (hT : Tab w) (hn : 64 < n ∨ 64 < m) :
    Calls Tryd.prog 6 #[.slice A n ca, .slice B m cb] w fun e w' => e = .returned (.bool true) ∧ Below w.heap.size w w' := by
  have HA := Lib.hid (alive_any hT)
  clear hT
  by_cases h : 64 < n
  · have e1 : decide ((64 : Int) < (n : Int)) = true := by simp; omega
    have e2 : decide (64 < n) = true := by simpa using h
    clear hn h
    go_enter Tryd.func6, Tryd.ntmps6
    go_wp2_with fail
    refine HA.out.mono ?_
    rintro e w1 ⟨rfl, hb1⟩
    have HB1 := Lib.hid hb1
    clear hb1
    go_wp2
    go_ret
    exact ⟨rfl, HB1.out⟩
  · have hm : 64 < m := by omega
    have e1 : decide ((64 : Int) < (n : Int)) = false := by simp; omega
    have e2 : decide (64 < n) = false := by simp; omega
    have e3 : decide ((64 : Int) < (m : Int)) = true := by simp; omega
    have e4 : decide (64 < m) = true := by simpa using hm
    clear hn h hm
    go_enter Tryd.func6, Tryd.ntmps6
    go_wp2_with fail
    refine HA.out.mono ?_
    rintro e w1 ⟨rfl, hb1⟩
    have HB1 := Lib.hid hb1
    clear hb1
    go_wp2
    go_ret
    exact ⟨rfl, HB1.out⟩

theorem Tryd.infoU8 : (Tryd.prog.info? 5).map (fun i => (i.zero, i.size, i.bytes)) = some (some (.int .u8 0), 1, 1) := by kernel_rfl
def u8V (x : Nat) : Value := .int .u8 (x : Int)
theorem wpList_append_u8 {ops : Array Oper} {rest : List Oper} {o : Oper} {a : Act} {w : World} {Q : Exit → Act → World → Prop} (hgd : o.guard = none) (s x : Operand)
    (ho : o.op = .call { callee := .builtin .append, args := #[s, x], argTypes := #[43, 43] }) (base : Nat) {v : Value} {n : Nat} {L : List Nat} (hs : a.eval s = v) (hown : w.ownsRow base 5 1 v n (L.map u8V))
    {A : Option Addr} {m c : Nat} {news : List Nat} (hx : a.eval x = .slice A m c) (hA : NumsAt .u8 w A news) (hm : m = news.length) (hn : A = none → news = [] ∧ c = 0)
    (h63 : n + m ≤ 1000000) (hbase : base ≤ w.heap.size)
    (h : ∀ v' w', w'.ownsRow base 5 1 v' (n + m) ((L ++ news).map u8V) → w.grownBy w' v.ownBlock → wpList Tryd.prog ops Q rest (a.put o.dst v') w') : wpList Tryd.prog ops Q (o :: rest) a w := by
  obtain ⟨i0, hi0, hz0, hz1, hz2⟩ := info_parts Tryd.infoU8
  cases A with
  | none =>
    obtain ⟨rfl, rfl⟩ := hn rfl
    subst hm
    exact wpList_append_own_none hgd s x 43 ho base 5 i0 1 Tryd.underlying43 hi0 v n (L.map u8V) hs hown hx (h v w (by simpa using hown) (World.grownBy.refl w _))
  | some ad =>
    refine wpList_append_own (P := Tryd.prog) w hgd s x 43 ho base 5 i0 (.int .u8 0) 1 1 Tryd.underlying43 hi0 hz0 hz1 hz2 rfl (by decide) v n (L.map u8V) hs hown ad m c (news.map u8V) hx (by rw [List.length_map]; omega) ?_ (by intro u hu; obtain ⟨z, _, rfl⟩ := List.mem_map.1 hu; rfl) (by unfold maxLen; omega) (by omega) hbase (fun v' w' h1 h2 _ => h v' w' (by rw [List.map_append]; exact h1) h2)
    intro j u hu
    have hj : j < news.length := by
      rcases Nat.lt_or_ge j news.length with h | h
      · exact h
      · rw [List.getElem?_eq_none (by simpa using h)] at hu; cases hu
    obtain ⟨a', e1, _, h2⟩ := hA j hj
    cases e1
    rw [h2, ← hu]
    simp [u8V, List.getD, hj]

/-- A list of bytes of the call's own. -/
structure MyU (w : World) (n : Nat) (ad : Option Addr) (cap : Nat) (M : List Nat) (W : World) : Prop where
  row : W.ownsRow w.heap.size 5 1 (.slice ad n cap) n (M.map u8V)
  len : M.length = n
  below : Below w.heap.size w W
theorem MyU.cell {w W : World} {n cap : Nat} {ad : Option Addr} {M : List Nat} (h : MyU w n ad cap M W) {j : Nat} (hj : j < n) : ∃ g, ad = some ⟨g, 0, none⟩ ∧ ∀ j, j < n → W.cell? ⟨g, j, none⟩ = some (.int .u8 ((M.getD j 0 : Nat) : Int)) ∧ W.frozen? ⟨g, j, none⟩ = false := by
  obtain ⟨g, rfl⟩ : ∃ g, ad = some ⟨g, 0, none⟩ := by
    rcases h.row.2 with ⟨_, h0⟩ | ⟨g, c2, cur, h1, _⟩
    · omega
    · injection h1 with h1; exact ⟨g, h1⟩
  refine ⟨g, rfl, fun j hj => ⟨?_, h.row.frozenAt j⟩⟩
  have hl := h.len
  have := h.row.cells (g := g) rfl j (u8V (M.getD j 0)) (by simp [List.getD, hl, hj])
  have e : (⟨g, 0, none⟩ : Addr).add j = ⟨g, j, none⟩ := by unfold Addr.add; split <;> simp_all
  rw [e] at this
  exact this
theorem MyU.ge {w W : World} {n cap g : Nat} {M : List Nat} (h : MyU w n (some ⟨g, 0, none⟩) cap M W) : w.heap.size ≤ g ∧ g < W.heap.size := h.row.lt g rfl
theorem MyU.set {w W : World} {n g cap : Nat} {M : List Nat} (h : MyU w n (some ⟨g, 0, none⟩) cap M W) (j : Nat) (x : Nat) : MyU w n (some ⟨g, 0, none⟩) cap (M.set j x) (W.setCell ⟨g, j, none⟩ (.int .u8 (x : Int))) := by
  refine ⟨?_, by rw [List.length_set]; exact h.len, h.below.setCell (by have := h.ge; simp; omega) _⟩
  have := (h.row.stored j (u8V x)).1
  rw [List.map_set]
  exact this
theorem MyU.still {w W W' : World} {n cap : Nat} {ad : Option Addr} {M : List Nat} (h : MyU w n ad cap M W) {X : Nat → Prop} (hk : Kept X W W') (hg : ∀ g, ad = some g → ¬ X g.block) (hb : Below w.heap.size w W') : MyU w n ad cap M W' :=
  ⟨hk.row h.row (fun k e => by
    cases ad with
    | none => cases e
    | some a => cases e; exact hg a rfl), h.len, hb⟩
theorem MyU.drew {w W : World} {n cap : Nat} {ad : Option Addr} {M : List Nat} (h : MyU w n ad cap M W) : MyU w n ad cap M W.drew := h.still (Kept.refl (fun _ => False) W).drew (fun _ _ => id) h.below.drew
theorem row_sl {w : World} {B n : Nat} {v : Value} {xs : List Value} {e : TypeId} {s : Nat} (h : w.ownsRow B e s v n xs) : ∃ a c, v = .slice a n c := by
  rcases h.2 with ⟨rfl, rfl⟩ | ⟨g, cap, cur, rfl, _⟩
  · exact ⟨_, _, rfl⟩
  · exact ⟨_, _, rfl⟩
/-- The windows and the list, between two rounds. -/
structure OrI (w : World) (b n : Nat) (ad : Option Addr) (cap : Nat) (L M : List Nat) (j : Nat) (l1 e1 l2 e2 : Nat) (W : World) : Prop where
  win1 : WinI w b l1 e1 W
  win2 : WinI w (b + 1) l2 e2 W
  my : MyU w n ad cap M W
  lt : ∀ g, ad = some g → g.block < b
  met1 : Wd.Met l1 e1 (L.take j)
  met2 : Wd.Met l2 e2 (M.take j)
theorem WinI.other {w W W' : World} {b b' l e : Nat} (h : WinI w b l e W) (hk : Kept (fun k => k = b') W W') (hne : b ≠ b') (hb : Below w.heap.size w W') : WinI w b l e W' :=
  ⟨h.win.kept hk hne, h.ok, hb, h.hb⟩
theorem take_succ {L : List Nat} {j : Nat} (h : j < L.length) : L.take (j + 1) = L.take j ++ [L.getD j 0] := take_snoc_nat h
end Go.Proofs.YtcbgadjnheagmaaDoor
