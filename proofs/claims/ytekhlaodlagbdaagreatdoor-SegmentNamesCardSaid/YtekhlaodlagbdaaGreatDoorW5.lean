/-
  The walk of the document's own Parse.
-/
import Derived.Test.YtekhlaodlagbdaaGreatDoorW2
import Derived.Deep.QuietTactic
import Derived.BigQuiet
namespace Go.Proofs.YtekhlaodlagbdaaGreatDoor
set_option maxRecDepth 100000
open Go.RowKit

abbrev lst (q : ByteArray) : List UInt8 := q.data.toList
def lsts (Q : List ByteArray) : List (List UInt8) := Q.map (fun q => q.data.toList)

/-- The document's map in memory. -/
structure RefAt (w : World) (b g cap : Nat) (Q : List ByteArray) : Prop where
  blk : w.heap[b]? = some (.cells #[.slice (some ⟨g, 0, none⟩) Q.length cap] 93 (0, 0))
  own : w.ownsRow (b + 1) 9 1 (.slice (some ⟨g, 0, none⟩) Q.length cap) Q.length (Q.map Value.string)

def RefPost (s : List UInt8) (w : World) (e : Ending) (w' : World) : Prop :=
  Below w.heap.size w w' ∧
  match Pure.verdict s with
  | .bad l c => e = .returned (.tuple #[.pointer none, .int .i64 (l : Int), .int .i64 (c : Int), .int .i64 10])
  | .good L => ∃ g cap Q, lsts Q = L ∧ e = .returned (.tuple #[.pointer (some ⟨w.heap.size, 0, none⟩), .int .i64 0, .int .i64 0, .int .i64 0]) ∧ RefAt w' w.heap.size g cap Q

def freeSo (Q : List ByteArray) (q : ByteArray) : Bool := ((lsts Q).flatten ++ lst q).any (· != 35)

def RefRel (s : ByteArray) (w : World) (row free ctr : Value) (wr : World) : Prop :=
  ∃ (k : Nat) (Q : List ByteArray) (q : ByteArray) (a : Option Addr) (cap : Nat), k ≤ s.size ∧ row = .string q ∧ free = .bool (freeSo Q q) ∧ ctr = .int .i64 (k : Int) ∧ Pure.Inv (lsts Q) (lst q) ∧
    Pure.parse s.data.toList [] [] = Pure.parse (s.data.toList.drop k) (lsts Q) (lst q) ∧
    wr.heap[w.heap.size]? = some (.cells #[.slice a Q.length cap] 93 (0, 0)) ∧
    wr.ownsRow (w.heap.size + 1) 9 1 (.slice a Q.length cap) Q.length (Q.map Value.string) ∧ Below w.heap.size w wr

theorem Tryz.infoStr : (Tryz.prog.info? 9).map (fun i => (i.zero, i.size, i.bytes)) = some (some (.string ⟨#[]⟩), 1, 16) := by kernel_rfl

theorem ref_head {w : World} {base : Nat} {a : Option Addr} {cap : Nat} {Q : List ByteArray} {e : TypeId} (hown : w.ownsRow base e 1 (.slice a Q.length cap) Q.length (Q.map Value.string)) (h : 1 ≤ Q.length) :
    ∃ g d, a = some ⟨g, 0, none⟩ ∧ w.cell? ⟨g, 0, none⟩ = some (.string d) ∧ d.size = Pure.wid (lsts Q) := by
  cases Q with
  | nil => simp at h
  | cons d Q =>
    rcases hown.2 with ⟨_, h0⟩ | ⟨g, cap', _, h0, _⟩
    · simp at h0
    · obtain ⟨rfl, rfl⟩ : a = some ⟨g, 0, none⟩ ∧ cap = cap' := by simpa using h0
      refine ⟨g, d, rfl, ?_, by simp [Pure.wid, lsts]⟩
      have := hown.cells (g := g) rfl 0 (.string d) rfl
      exact this

theorem slice_of {w : World} {base n : Nat} {e : TypeId} {v : Value} {xs : List Value} (h : w.ownsRow base e 1 v n xs) (hn : 1 ≤ n) : ∃ g cap, v = .slice (some ⟨g, 0, none⟩) n cap := by
  rcases h.2 with ⟨_, h0⟩ | ⟨g, cap, _, h0, _⟩
  · omega
  · exact ⟨g, cap, h0⟩

theorem snoc_at (q s : ByteArray) (k : Nat) (h : k < s.size) : (q ++ s.extract k (k + 1)).data.toList = q.data.toList ++ [s[k]] := by
  rw [ByteArray.data_append, Array.toList_append, ByteArray.data_extract, Array.toList_extract]
  rw [List.extract_eq_take_drop, drop_cons s k h]
  simp

theorem freeSo_row (Q : List ByteArray) (q : ByteArray) : freeSo (Q ++ [q]) ⟨#[]⟩ = freeSo Q q := by simp [freeSo, lsts]

theorem all_any35 (l : List UInt8) : (!l.any (· != 35)) = l.all (· == 35) := by
  induction l with
  | nil => rfl
  | cons a l ih => rw [List.any_cons, List.all_cons, ← ih, Bool.not_or]; cases h : (a == 35) <;> simp [bne, h]

theorem wall_free (Q : List ByteArray) : (!freeSo Q ByteArray.empty) = Pure.wall (lsts Q) := by
  unfold freeSo Pure.wall
  rw [all_any35]
  show List.all ((lsts Q).flatten ++ []) _ = _
  rw [List.append_nil]

set_option maxHeartbeats 800000 in
set_option maxRecDepth 100000 in
theorem ref_any (s : ByteArray) (w : World) (hs : s.size ≤ 9223372036854775807) (hne : 1 ≤ s.size) (hem : s.toList.isEmpty = false) :
    Calls Tryz.prog 14 #[.string s] w (RefPost s.data.toList w) := by
  obtain ⟨i0, hi, hz0, hz1, hz2⟩ := info_parts Tryz.infoStr
  go_enter Tryz.func14, Tryz.ntmps14
  go_wp2
  go_loopw [7, 8, 9] (fun row free ctr wr => RefRel s w row free ctr wr) (fun _ _ i _ => s.size - (intOf i).toNat)
  case atStart => exact ⟨0, [], ⟨#[]⟩, none, 0, Nat.zero_le _, rfl, rfl, rfl, Pure.inv_nil, rfl, heap_alloc_new w _, World.ownsRow_nil _ _ _ _, (Below.refl _ _).alloc (Nat.le_refl _) _⟩
  case round =>
    obtain ⟨k, Q, q, a, cap, hk, rfl, rfl, rfl, hinv, hpar, hblk, hown, hbel⟩ := hrel
    have hlen := hinv.len
    have hcur := hinv.cur
    have hmost := Pure.most_le hinv
    have hql : (lst q).length = q.size := by simp
    have hQl : (lsts Q).length = Q.length := by simp [lsts]
    rw [hQl] at hlen
    rw [hql] at hcur
    have HQL : Hid ((lsts Q).length = Q.length) := hQl
    have HQQ : Hid ((lst q).length = q.size) := hql
    clear hql hQl
    have c0 : wr.cell? ⟨w.heap.size, 0, none⟩ = some (.slice a Q.length cap) := by rw [blk_cell hblk]; rfl
    have f0 := blk_free hblk 0
    have hq32 : q.size ≤ 32 := by omega
    by_cases hlt : k < s.size
    · have hd := drop_cons s k hlt
      by_cases h32 : 32 ≤ Q.length
      · have hq0 : q.size = 0 := by
          have := hinv.last (by rw [HQL.out]; omega)
          rw [← HQQ.out, this]; rfl
        have hf' : Pure.fits (lsts Q) (lst q) s[k] = false := by simp [Pure.fits, HQL.out]; omega
        have HV := bad_stop (hpar.trans (by rw [hd]; exact Pure.parse_stop hf'))
        have HP : Hid (RefPost s.data.toList w (.returned (.tuple #[.pointer none, .int .i64 ((Q.length : Int) + 1), .int .i64 1, .int .i64 10])) wr) := by
          refine ⟨hbel, ?_⟩
          rw [HV, HQL.out, HQQ.out, hq0]; simp
        clear HV hpar hf' hq0 hd
        go_wp2
        exact bodyPost_ret (v := .tuple #[.pointer none, .int .i64 ((Q.length : Int) + 1), .int .i64 1, .int .i64 10]) (by simp [results, Tryz.results14, go_sem]) rfl HP.out
      · by_cases h10 : s[k] = 10
        · have ht : (((s[k].toNat : Nat) : Int) == 10) = true := by rw [h10]; rfl
          rw [h10] at hd
          clear h10
          have hacc : Pure.fits (lsts Q) (lst q) 10 = true → Hid (∀ (g cap2 : Nat) (w2 : World), w2.ownsRow (w.heap.size + 1) 9 1 (.slice (some ⟨g, 0, none⟩) (Q.length + 1) cap2) (Q.length + 1) (Q.map Value.string ++ [.string q]) → wr.grownBy w2 (Value.slice a Q.length cap).ownBlock →
              RefRel s w (.string ⟨#[]⟩) (.bool (freeSo Q q)) (.int .i64 ((k : Int) + 1)) (w2.setCell ⟨w.heap.size, 0, none⟩ (.slice (some ⟨g, 0, none⟩) (Q.length + 1) cap2))) := by
            intro hf g cap2 w2 ho hg
            have hb2 : w2.heap[w.heap.size]? = some (.cells #[.slice a Q.length cap] 93 (0, 0)) := by
              rw [hg.block _ (blk_lt hblk) (fun e => by have := (hown.lt _ e.symm).1; omega)]
              exact hblk
            have hll : lsts (Q ++ [q]) = lsts Q ++ [lst q] := by simp [lsts]
            have hle : (Q ++ [q]).length = Q.length + 1 := by simp
            refine ⟨k + 1, Q ++ [q], ⟨#[]⟩, some ⟨g, 0, none⟩, cap2, hlt, rfl, by rw [freeSo_row], by go_num, ?_, ?_, ?_, ?_, ?_⟩
            · rw [hll]; exact Pure.inv_row hinv hf
            · rw [hpar, hd, Pure.parse_line hf, hll]
            · rw [blk_set hb2 0 _, hle]; rfl
            · rw [hle, List.map_append]
              exact owns_set (b := w.heap.size) (j := 0) ho (by omega) _
            · exact (hbel.grown hg hbel.size (fun j e => by have := (hown.lt j e).1; omega)).setCell (Nat.le_refl _) _
          have hrej : Pure.fits (lsts Q) (lst q) 10 = false → Hid (RefPost s.data.toList w (.returned (.tuple #[.pointer none, .int .i64 ((Q.length : Int) + 1), .int .i64 ((q.size : Int) + 1), .int .i64 10])) wr) := by
            intro hf'
            have HV := bad_stop (hpar.trans (by rw [hd]; exact Pure.parse_stop hf'))
            refine ⟨hbel, ?_⟩
            rw [HV, HQL.out, HQQ.out]; simp
          have HO : Hid (wr.ownsRow (w.heap.size + 1) 9 1 (.slice a Q.length cap) Q.length (Q.map Value.string)) := hown
          have hfit : Pure.fits (lsts Q) (lst q) 10 = (decide (0 < q.size) && decide (Q.length = 0 ∨ q.size = Pure.wid (lsts Q))) := by
            have : (lsts Q = []) = (Q.length = 0) := by simp [lsts]
            simp only [Pure.fits, HQL.out, HQQ.out, if_true, this]
            simp; omega
          have hwd : 1 ≤ Q.length → q.size ≤ Pure.wid (lsts Q) ∧ 1 ≤ Pure.wid (lsts Q) := by
            intro h
            have hn : lsts Q ≠ [] := by intro e; rw [← HQL.out, e] at h; simp at h
            have := hinv.pos hn
            have hm : Pure.most (lsts Q) = Pure.wid (lsts Q) := by simp [Pure.most, hn]
            omega
          have HB : Hid (wr.heap[w.heap.size]? = some (.cells #[.slice a Q.length cap] 93 (0, 0))) := hblk
          have hbs := blk_lt hblk
          clear hpar hd hinv hown hblk
          have HG : Hid (∀ w2, (wr.alloc (.cells #[.string q] 9)).grownBy w2 (Value.slice a Q.length cap).ownBlock → wr.grownBy w2 (Value.slice a Q.length cap).ownBlock ∧ w2.cell? ⟨w.heap.size, 0, none⟩ = some (.slice a Q.length cap) ∧ w2.frozen? ⟨w.heap.size, 0, none⟩ = false) := by
            intro w2 hg
            have hg' := grown_new1 hg
            have hb2 : w2.heap[w.heap.size]? = wr.heap[w.heap.size]? := hg'.block _ hbs (fun e => by have := (HO.out.lt _ e.symm).1; omega)
            exact ⟨hg', (World.cell?_of_block (a := ⟨w.heap.size, 0, none⟩) hb2).trans c0, (World.frozen?_of_block (a := ⟨w.heap.size, 0, none⟩) hb2).trans f0⟩
          by_cases hq0 : q.size = 0
          · have HP := hrej (by rw [hfit]; simp [hq0])
            have hqe : q = ByteArray.empty := ByteArray.size_eq_zero_iff.1 hq0
            clear hacc hrej hfit hwd hq0
            subst hqe
            have HP' : Hid (RefPost s.data.toList w (.returned (.tuple #[.pointer none, .int .i64 ((Q.length : Int) + 1), .int .i64 1, .int .i64 10])) wr) := HP.out
            clear HP hcur
            go_wp2
            exact bodyPost_ret (v := .tuple #[.pointer none, .int .i64 ((Q.length : Int) + 1), .int .i64 1, .int .i64 10]) (by simp [results, Tryz.results14, go_sem]) rfl HP'.out
          · have hqn : ¬ q = ByteArray.empty := fun e => hq0 (ByteArray.size_eq_zero_iff.2 e)
            have hqz : (((q.size : Nat) : Int) == 0) = false := by rw [beq_eq_false_iff_ne]; omega
            have hq1 : 1 ≤ q.size := by omega
            by_cases hQ : Q.length = 0
            · have HS := hacc (by rw [hfit]; simp [hQ]; omega)
              have hQ' : Q.length ≤ 0 := by omega
              clear hacc hrej hfit hwd hQ hq0
              go_wp2_with (at_builtin; refine wpList_append_own _ rfl _ _ 91 rfl (w.heap.size + 1) 9 i0 (.string ⟨#[]⟩) 1 16 Tryz.underlying91 hi hz0 hz1 hz2 rfl (by decide) _ _ _ rfl (HO.out.alloc _) ⟨wr.heap.size, 0, none⟩ 1 1 [.string q] rfl rfl ?c1 ?c2 ?c3 ?c4 ?c5 ?_)
              try case c1 => (intro t u ht; match t, ht with | 0, ht => simp at ht; subst ht; simp [Addr.add])
              case c2 => first | rfl | (intro u hu; simp at hu; subst hu; rfl)
              case c3 => unfold maxLen; omega
              case c4 => first | omega | (simp; omega)
              case c5 => first | omega | (simp; omega)
              intro v' w2 ho2 hg2 _
              obtain ⟨g2, cap2, rfl⟩ := slice_of ho2 (by omega)
              obtain ⟨hg3, hq1, hq2⟩ := HG.out w2 hg2
              have HX : Hid (RefRel s w (.string ⟨#[]⟩) (.bool (freeSo Q q)) (.int .i64 ((k : Int) + 1)) (w2.setCell ⟨w.heap.size, 0, none⟩ (.slice (some ⟨g2, 0, none⟩) (Q.length + 1) cap2))) := HS.out _ _ _ ho2 hg3
              clear ho2 hg2 hg3
              go_wp2
              go_roundw
              case rel => exact HX.out
              case measure => simp [intOf]; omega
            · obtain ⟨g0, d, rfl, hcd, hds⟩ := ref_head HO.out (by omega)
              have hQ1 : 1 ≤ Q.length := by omega
              obtain ⟨hw1, hw2⟩ := hwd hQ1
              rw [← hds] at hw1 hw2 hfit
              by_cases hqw : q.size = d.size
              · have HS := hacc (by rw [hfit]; simp [hqw]; omega)
                have hqw1 : d.size ≤ q.size := by omega
                clear hacc hrej hfit hwd hQ hq0 hqw hds
                go_wp2_with (at_builtin; refine wpList_append_own _ rfl _ _ 91 rfl (w.heap.size + 1) 9 i0 (.string ⟨#[]⟩) 1 16 Tryz.underlying91 hi hz0 hz1 hz2 rfl (by decide) _ _ _ rfl (HO.out.alloc _) ⟨wr.heap.size, 0, none⟩ 1 1 [.string q] rfl rfl ?c1 ?c2 ?c3 ?c4 ?c5 ?_)
                try case c1 => (intro t u ht; match t, ht with | 0, ht => simp at ht; subst ht; simp [Addr.add])
                case c2 => first | rfl | (intro u hu; simp at hu; subst hu; rfl)
                case c3 => unfold maxLen; omega
                case c4 => first | omega | (simp; omega)
                case c5 => first | omega | (simp; omega)
                intro v' w2 ho2 hg2 _
                obtain ⟨g2, cap2, rfl⟩ := slice_of ho2 (by omega)
                obtain ⟨hg3, hq1, hq2⟩ := HG.out w2 hg2
                have HX : Hid (RefRel s w (.string ⟨#[]⟩) (.bool (freeSo Q q)) (.int .i64 ((k : Int) + 1)) (w2.setCell ⟨w.heap.size, 0, none⟩ (.slice (some ⟨g2, 0, none⟩) (Q.length + 1) cap2))) := HS.out _ _ _ ho2 hg3
                clear ho2 hg2 hg3
                go_wp2
                go_roundw
                case rel => exact HX.out
                case measure => simp [intOf]; omega
              · have HP := hrej (by rw [hfit]; simp only [hqw, hQ]; simp)
                have hqw1 : q.size < d.size := by omega
                clear hacc hrej hfit hwd hQ hq0 hqw hds
                go_wp2
                exact bodyPost_ret (v := .tuple #[.pointer none, .int .i64 ((Q.length : Int) + 1), .int .i64 ((q.size : Int) + 1), .int .i64 10]) (by simp [results, Tryz.results14, go_sem]) rfl HP.out
        · have ht : (((s[k].toNat : Nat) : Int) == 10) = false := by
            rw [beq_eq_false_iff_ne]; intro e; exact h10 ((ten_iff _).2 e)
          have hacc : Pure.fits (lsts Q) (lst q) s[k] = true → Hid (RefRel s w (.string (q ++ s.extract k (k + 1))) (.bool (freeSo Q q || (((s[k].toNat : Nat) : Int) != 35))) (.int .i64 ((k : Int) + 1)) wr) := by
            intro hf
            have hqq : lst (q ++ s.extract k (k + 1)) = lst q ++ [s[k]] := snoc_at q s k hlt
            refine ⟨k + 1, Q, q ++ s.extract k (k + 1), a, cap, hlt, rfl, ?_, by go_num, ?_, ?_, hblk, hown, hbel⟩
            · rw [neq35]; unfold freeSo; rw [hqq]; simp only [List.any_append, List.any_cons, List.any_nil, Bool.or_false, Bool.or_assoc]
            · rw [hqq]; exact Pure.inv_cell hinv h10 hf
            · rw [hpar, hd, Pure.parse_take hf h10, hqq]
          have hrej : Pure.fits (lsts Q) (lst q) s[k] = false → Hid (RefPost s.data.toList w (.returned (.tuple #[.pointer none, .int .i64 ((Q.length : Int) + 1), .int .i64 ((q.size : Int) + 1), .int .i64 10])) wr) := by
            intro hf'
            have HV := bad_stop (hpar.trans (by rw [hd]; exact Pure.parse_stop hf'))
            refine ⟨hbel, ?_⟩
            rw [HV, HQL.out, HQQ.out]; simp
          have hfit : Pure.fits (lsts Q) (lst q) s[k] = (Pure.okc s[k] && decide (q.size < Pure.most (lsts Q))) := by
            simp only [Pure.fits, HQL.out, HQQ.out, h10, if_false]
            simp; omega
          by_cases hok : Pure.okc s[k] = true
          · by_cases hQ : Q.length = 0
            · have hmo : Pure.most (lsts Q) = 32 := by
                have : lsts Q = [] := List.eq_nil_of_length_eq_zero (by rw [HQL.out]; exact hQ)
                rw [this]; rfl
              rw [hmo] at hfit
              by_cases hlt2 : q.size < 32
              · have HS := hacc (by rw [hfit, hok]; simp [hlt2])
                have hQ' : Q.length ≤ 0 := by omega
                clear hacc hrej hfit hpar hd hinv hown hblk h10 hQ hmo
                generalize freeSo Q q = fr at HS ⊢
                cases fr
                all_goals
                  go_wp2_with (go_at_call 51; (with_reducible refine (cell_any s[k] _).mono ?_); rintro e w' ⟨rfl, rfl⟩; rw [hok])
                  go_roundw
                  case rel => exact HS.out
                  case measure => simp [intOf]; omega
              · have HP := hrej (by rw [hfit, hok]; simp only [hlt2]; rfl)
                have hQ' : Q.length ≤ 0 := by omega
                have hge2 : 32 ≤ q.size := by omega
                clear hacc hrej hfit hpar hd hinv hown hblk h10 hQ hmo hlt2
                go_wp2_with (go_at_call 51; (with_reducible refine (cell_any s[k] _).mono ?_); rintro e w' ⟨rfl, rfl⟩; rw [hok])
                all_goals exact bodyPost_ret (v := .tuple #[.pointer none, .int .i64 ((Q.length : Int) + 1), .int .i64 ((q.size : Int) + 1), .int .i64 10]) (by simp [results, Tryz.results14, go_sem]) rfl HP.out
            · obtain ⟨g0, d, rfl, hcd, hds⟩ := ref_head hown (by omega)
              have hQ1 : 1 ≤ Q.length := by omega
              have hn : lsts Q ≠ [] := by intro e; have := HQL.out; rw [e] at this; simp at this; omega
              have hmo : Pure.most (lsts Q) = d.size := by simp [Pure.most, hn, hds]
              rw [hmo] at hfit hmost hcur
              by_cases hlt2 : q.size < d.size
              · have HS := hacc (by rw [hfit, hok]; simp [hlt2])
                clear hacc hrej hfit hpar hd hinv hown hblk h10 hQ hmo hds
                generalize freeSo Q q = fr at HS ⊢
                cases fr
                all_goals
                  go_wp2_with (go_at_call 51; (with_reducible refine (cell_any s[k] _).mono ?_); rintro e w' ⟨rfl, rfl⟩; rw [hok])
                  go_roundw
                  case rel => exact HS.out
                  case measure => simp [intOf]; omega
              · have HP := hrej (by rw [hfit, hok]; simp only [hlt2]; rfl)
                have hge2 : d.size ≤ q.size := by omega
                clear hacc hrej hfit hpar hd hinv hown hblk h10 hQ hmo hds hlt2
                go_wp2_with (go_at_call 51; (with_reducible refine (cell_any s[k] _).mono ?_); rintro e w' ⟨rfl, rfl⟩; rw [hok])
                all_goals exact bodyPost_ret (v := .tuple #[.pointer none, .int .i64 ((Q.length : Int) + 1), .int .i64 ((q.size : Int) + 1), .int .i64 10]) (by simp [results, Tryz.results14, go_sem]) rfl HP.out
          · have hok' : Pure.okc s[k] = false := by simpa using hok
            have HP := hrej (by rw [hfit, hok']; rfl)
            clear hacc hrej hfit hpar hd hinv hown hblk hok h10
            go_wp2_with (go_at_call 51; (with_reducible refine (cell_any s[k] _).mono ?_); rintro e w' ⟨rfl, rfl⟩; rw [hok'])
            exact bodyPost_ret (v := .tuple #[.pointer none, .int .i64 ((Q.length : Int) + 1), .int .i64 ((q.size : Int) + 1), .int .i64 10]) (by simp [results, Tryz.results14, go_sem]) rfl HP.out
    · obtain rfl : k = s.size := by omega
      have hp : Pure.parse s.data.toList [] [] = (true, lsts Q, lst q) := by rw [hpar, List.drop_of_length_le (by simp)]; rfl
      have htx := Pure.parse_text s.data.toList [] [] (by rw [hp])
      rw [hp] at htx
      clear hpar
      by_cases hq0 : q.size = 0
      · have hqe : q = ByteArray.empty := ByteArray.size_eq_zero_iff.1 hq0
        subst hqe
        have hQn : Q ≠ [] := by
          intro e; subst e
          have : s.data.toList = [] := by simpa [Pure.text, lsts] using htx.symm
          have h2 : s.size = 0 := by simpa using congrArg List.length this
          omega
        have hLn : lsts Q ≠ [] := by simpa [lsts] using hQn
        have hcond : ¬ (lsts Q = [] ∨ lst ByteArray.empty ≠ []) := by
          intro h
          rcases h with h | h
          · exact hLn h
          · exact h rfl
        by_cases hw : Pure.wall (lsts Q) = true
        · have hfr : freeSo Q ByteArray.empty = false := by
            have := wall_free Q
            rw [hw] at this
            simpa using this
          have HP : Hid (RefPost s.data.toList w (.returned (.tuple #[.pointer none, .int .i64 0, .int .i64 0, .int .i64 10])) wr) := by
            refine ⟨hbel, ?_⟩
            unfold Pure.verdict
            rw [hp]
            simp only [Pure.fin]
            rw [if_neg hcond, if_pos hw]
            simp
          clear hp htx hinv hown hblk hq0 hQn hLn hcond hw
          go_wp2
          exact bodyPost_ret (v := .tuple #[.pointer none, .int .i64 0, .int .i64 0, .int .i64 10]) (by simp [results, Tryz.results14, go_sem]) rfl HP.out
        · have hfr : freeSo Q ByteArray.empty = true := by
            have := wall_free Q
            cases hf : freeSo Q ByteArray.empty with
            | true => rfl
            | false => rw [hf] at this; exact absurd this.symm hw
          have hQ1 : 1 ≤ Q.length := by
            cases Q with
            | nil => exact absurd rfl hQn
            | cons a l => simp
          obtain ⟨g, cap2, hv⟩ := slice_of hown hQ1
          obtain ⟨rfl, rfl⟩ : a = some ⟨g, 0, none⟩ ∧ cap = cap2 := by simpa using hv
          have HP : Hid (RefPost s.data.toList w (.returned (.tuple #[.pointer (some ⟨w.heap.size, 0, none⟩), .int .i64 0, .int .i64 0, .int .i64 0])) wr) := by
            refine ⟨hbel, ?_⟩
            unfold Pure.verdict
            rw [hp]
            simp only [Pure.fin]
            rw [if_neg hcond, if_neg hw]
            exact ⟨g, cap, Q, rfl, by trivial, ⟨hblk, hown⟩⟩
          clear hp htx hinv hown hblk hq0 hQn hLn hcond hw hv
          go_wp2
          exact bodyPost_ret (v := .tuple #[.pointer (some ⟨w.heap.size, 0, none⟩), .int .i64 0, .int .i64 0, .int .i64 0]) (by simp [results, Tryz.results14, go_sem]) rfl HP.out
      · have hqn : ¬ q = ByteArray.empty := fun e => hq0 (ByteArray.size_eq_zero_iff.2 e)
        have hqm : q.toList.isEmpty = false := by
          rw [ByteArray.toList_eq]
          cases hl : q.data.toList with
          | nil => exact absurd (by simpa using congrArg List.length hl) hq0
          | cons a l => rfl
        have HP : Hid (∀ n, RefPost s.data.toList w (.returned (.tuple #[.pointer none, .int .i64 ((Q.length : Int) + 1), .int .i64 ((q.size : Int) + 1), .int .i64 10])) (wr.drewN n)) := by
          intro n
          refine ⟨below_drewN hbel n, ?_⟩
          unfold Pure.verdict
          rw [hp]
          have : lst q ≠ [] := by intro e; apply hq0; rw [← HQQ.out, e]; rfl
          simp only [Pure.fin]
          rw [if_pos (Or.inr this), HQL.out, HQQ.out]
          simp
        clear hp htx hinv hown hblk hq0
        go_wp2
        go_quiet (fail)
        go_wp2
        exact bodyPost_ret (v := .tuple #[.pointer none, .int .i64 ((Q.length : Int) + 1), .int .i64 ((q.size : Int) + 1), .int .i64 10]) (by simp [results, Tryz.results14, go_sem]) rfl (HP.out _)

set_option maxHeartbeats 400000 in
theorem ref_none (s : ByteArray) (w : World) (hs : s.size = 0) :
    Calls Tryz.prog 14 #[.string s] w (RefPost s.data.toList w) := by
  obtain rfl : s = ByteArray.empty := ByteArray.size_eq_zero_iff.1 hs
  have HP : Hid (RefPost ByteArray.empty.data.toList w (.returned (.tuple #[.pointer none, .int .i64 1, .int .i64 1, .int .i64 10])) (w.alloc (.cells #[.slice none 0 0] 93))) :=
    ⟨(Below.refl _ _).alloc (Nat.le_refl _) _, rfl⟩
  go_enter Tryz.func14, Tryz.ntmps14
  go_wp2
  exact bodyPost_ret (v := .tuple #[.pointer none, .int .i64 1, .int .i64 1, .int .i64 10]) (by simp [results, Tryz.results14, go_sem]) rfl HP.out

/-- The document's Parse, at any text. -/
theorem ref_all (s : ByteArray) (w : World) (hs : s.size ≤ 9223372036854775807) :
    Calls Tryz.prog 14 #[.string s] w (RefPost s.data.toList w) := by
  by_cases h : s.size = 0
  · exact ref_none s w h
  · refine ref_any s w hs (by omega) ?_
    rw [ByteArray.toList_eq]
    cases hl : s.data.toList with
    | nil => exact absurd (by simpa using congrArg List.length hl) h
    | cons a l => rfl

end Go.Proofs.YtekhlaodlagbdaaGreatDoor
