/- Joined texts: Reg, W2. -/
import Derived.Test.YtekhlaodlagbdaaGreatDoorW4
import Derived.Test.YtekhlaodlagbdaaGreatDoorHeap
import Derived.Deep.RegionLaw
import Derived.WalkKit

/-
  An append to a list of the call's own, as one step of a statement whose order is open.
-/
namespace Go.Proofs.YtekhlaodlagbdaaGreatDoor
set_option maxRecDepth 100000
open Go

theorem step_append_mine {P : Program} {ops : Array Oper} {o : Oper} {a : Act} {w : World} {K : Act → World → Prop} {Q : Exit → Act → World → Prop} {E : Prop}
    (hg : o.guard = none) (s x : Operand) (t : TypeId) (hop : o.op = Op.call { callee := Callee.builtin Builtin.append, args := #[s, x], argTypes := #[t, t] })
    (base : Nat) (e : TypeId) (i : TypeInfo) (z : Value) (size bytes : Nat) (h1 : P.underlying t = some (.slice e)) (h2 : P.info? e = some i) (h3 : i.zero = some z) (h4 : i.size = size) (h5 : i.bytes = bytes) (h6 : z.cells.size = size) (h7 : 0 < size)
    (v : Value) (n : Nat) (xs : List Value) (hs : a.eval s = v) (hown : w.ownsRow base e size v n xs)
    (ad : Addr) (m c : Nat) (news : List Value) (hx : a.eval x = .slice (some ad) m c) (hn : news.length = m * size) (hc : ∀ j u, news[j]? = some u → w.cell? (ad.add j) = some u) (h1c : ∀ u ∈ news, u.oneCell' = true)
    (b1 : n + m ≤ maxLen) (b2 : (n + m) * bytes ≤ 140737488355328) (hbase : base ≤ w.heap.size) (hm : 0 < m)
    (hK : ∀ g cap w', w'.ownsRow base e size (.slice (some ⟨g, 0, none⟩) (n + m) cap) (n + m) (xs ++ news) → w.grownBy w' v.ownBlock → K (a.put o.dst (.slice (some ⟨g, 0, none⟩) (n + m) cap)) w') :
    if Region.wanted o (yielded ops a.tmps) = true then Oper.wp P o a w K Q else E := by
  have hw : Region.wanted o (yielded ops a.tmps) = true := by simp [Region.wanted, hg]
  rw [if_pos hw]
  obtain ⟨v', w', hrun, r1, r2, _⟩ := run_append_own (P := P) w base t o.type e i z size bytes h1 h2 h3 h4 h5 h6 h7 v n xs hown ad m c news hn hc h1c b1 b2 hbase
  obtain ⟨g, cap, rfl⟩ : ∃ g cap, v' = .slice (some ⟨g, 0, none⟩) (n + m) cap := by
    rcases r1.2 with ⟨_, h⟩ | ⟨g, cap, _, h, _⟩
    · omega
    · exact ⟨g, cap, h⟩
  unfold Oper.wp
  simp [execOp, hop, resolve, invoke, builtin, hs, hx, hrun, Result.andThen]
  exact hK g cap w' r1 r2
end Go.Proofs.YtekhlaodlagbdaaGreatDoor

/-
  The walk of grid.Parse.
-/
namespace Go.Proofs.YtekhlaodlagbdaaGreatDoor
set_option maxRecDepth 100000
open Go.RowKit

/-- What a map's block holds when nobody asked for edges yet. -/
def mapCells (rows cols : Nat) (v : Value) : Array Value :=
  #[.int .i64 (rows : Int), .int .i64 (cols : Int), v, .int .u32 0, .int .i32 0, .int .u32 0, .slice none 0 0, .slice none 0 0, .int .i64 0]

theorem takes_fits {L : List (List UInt8)} {r : List UInt8} {c : UInt8} (h : Pure.Inv L r) : takesB c (L.length + 1) (r.length + 1) (Pure.wid L) = Pure.fits L r c := by
  have h1 := h.pos
  have h2 := h.cur
  rw [Bool.eq_iff_iff]
  by_cases hL : L = []
  · subst hL
    by_cases hc : c = 10 <;> simp [takesB, Pure.fits, hc, Pure.most, Pure.wid] <;> omega
  · have h1' := h1 hL
    have hm : Pure.most L = Pure.wid L := by simp [Pure.most, hL]
    have hn : L.length ≠ 0 := fun e => hL (List.eq_nil_of_length_eq_zero e)
    by_cases hc : c = 10
    · simp [takesB, Pure.fits, hc, hL]
      omega
    · have : 1 < L.length + 1 := by omega
      cases hk : Pure.okc c <;> simp [takesB, Pure.fits, hc, hm, hk, this] <;> omega

/-- 'takes', by the rows and the cells so far. -/
theorem takes_at {L : List (List UInt8)} {r : List UInt8} (c : UInt8) (b : Nat) (w : World) (hinv : Pure.Inv L r) (h : w.cell? ⟨b, 1, none⟩ = some (.int .i64 (Pure.wid L : Int))) :
    Calls Tryz.prog 50 #[.pointer (some ⟨b, 0, none⟩), .int .u8 (c.toNat : Int), .int .i64 ((L.length : Int) + 1), .int .i64 ((r.length : Int) + 1)] w fun e w' => e = .returned (.bool (Pure.fits L r c)) ∧ w = w' := by
  have hlen := hinv.len
  have hcur := hinv.cur
  have hmost := Pure.most_le hinv
  have hwid : Pure.wid L ≤ 100 := by
    by_cases hL : L = []
    · subst hL; simp [Pure.wid]
    · have := (hinv.pos hL).2; omega
  have := takes_any b c (L.length + 1) (r.length + 1) (Pure.wid L) w h (by omega) (by omega) hwid
  rw [takes_fits hinv] at this
  exact this

theorem drop_cons (s : ByteArray) (k : Nat) (h : k < s.size) : s.data.toList.drop k = s[k] :: s.data.toList.drop (k + 1) := by
  rw [List.drop_eq_getElem_cons (by simpa using h)]; rfl

/-- A map in memory: its block, and its cells' block. -/
structure MapAt (w : World) (b g cap : Nat) (L : List (List UInt8)) : Prop where
  blk : w.heap[b]? = some (.cells (mapCells L.length (Pure.wid L) (.slice (some ⟨g, 0, none⟩) L.flatten.length cap)) 64 (0, 0))
  own : w.ownsRow (b + 1) 5 1 (.slice (some ⟨g, 0, none⟩) L.flatten.length cap) L.flatten.length (L.flatten.map byteV)

theorem all_map {b g cap : Nat} {L : List (List UInt8)} {w : World} (h : MapAt w b g cap L) (hn : L.flatten.length ≤ 100000) :
    Calls Tryz.prog 36 #[.pointer (some ⟨b, 0, none⟩)] w (AllPost L.flatten w) :=
  all_any b g cap L.flatten w hn (blk_lt h.blk) (h.own.lt g rfl).2 (by rw [blk_cell h.blk]; rfl) (byte_cells h.own)

/-- What Parse leaves. -/
def ParsePost (s : List UInt8) (w : World) (e : Ending) (w' : World) : Prop :=
  Below w.heap.size w w' ∧
  match Pure.verdict s with
  | .bad l c => e = .returned (.tuple #[.pointer none, .int .i64 (l : Int), .int .i64 (c : Int), .int .i64 10])
  | .good L => ∃ g cap, e = .returned (.tuple #[.pointer (some ⟨w.heap.size, 0, none⟩), .int .i64 0, .int .i64 0, .int .i64 0]) ∧ MapAt w' w.heap.size g cap L

/-- The loop's relation. -/
def ParseRel (s : ByteArray) (w : World) (m line col ctr : Value) (wr : World) : Prop :=
  ∃ (k : Nat) (L : List (List UInt8)) (r : List UInt8) (v : Value), k ≤ s.size ∧ m = .pointer (some ⟨w.heap.size, 0, none⟩) ∧ ctr = .int .i64 (k : Int) ∧ line = .int .i64 ((L.length : Int) + 1) ∧ col = .int .i64 ((r.length : Int) + 1) ∧ Pure.Inv L r ∧
    Pure.parse s.data.toList [] [] = Pure.parse (s.data.toList.drop k) L r ∧
    wr.heap[w.heap.size]? = some (.cells (mapCells L.length (Pure.wid L) v) 64 (0, 0)) ∧
    wr.ownsRow (w.heap.size + 1) 5 1 v (L.flatten.length + r.length) ((L.flatten ++ r).map byteV) ∧ Below w.heap.size w wr

theorem Tryz.infoByte : (Tryz.prog.info? 5).map (fun i => (i.zero, i.size, i.bytes)) = some (some (.int .u8 0), 1, 1) := by kernel_rfl

theorem bad_stop {s : List UInt8} {L : List (List UInt8)} {r : List UInt8} (h : Pure.parse s [] [] = (false, L, r)) : Pure.verdict s = .bad (L.length + 1) (r.length + 1) := by
  unfold Pure.verdict; rw [h]; rfl

set_option maxHeartbeats 800000 in
set_option maxRecDepth 100000 in
theorem parse_any (s : ByteArray) (w : World) (hs : s.size ≤ 9223372036854775807) :
    Calls Tryz.prog 13 #[.string s] w (ParsePost s.data.toList w) := by
  obtain ⟨i0, hi, hz0, hz1, hz2⟩ := info_parts Tryz.infoByte
  go_enter Tryz.func13, Tryz.ntmps13
  go_wp2
  go_loopw [2, 3, 4, 11] (fun m line col ctr wr => ParseRel s w m line col ctr wr) (fun _ _ _ i _ => s.size - (intOf i).toNat)
  case atStart => exact ⟨0, [], [], .slice none 0 0, Nat.zero_le _, rfl, rfl, rfl, rfl, Pure.inv_nil, rfl, heap_alloc_new w _, World.ownsRow_nil _ _ _ _, (Below.refl _ _).alloc (Nat.le_refl _) _⟩
  case round =>
    obtain ⟨k, L, r, v, hk, rfl, rfl, rfl, rfl, hinv, hpar, hblk, hown, hbel⟩ := hrel
    have hlen := hinv.len
    have hcur := hinv.cur
    have hmost := Pure.most_le hinv
    have hwid : Pure.wid L ≤ 100 := by
      by_cases hL : L = []
      · subst hL; simp [Pure.wid]
      · have := (hinv.pos hL).2; omega
    have c1 : wr.cell? ⟨w.heap.size, 1, none⟩ = some (.int .i64 (Pure.wid L : Int)) := by rw [blk_cell hblk]; rfl
    have c0 : wr.cell? ⟨w.heap.size, 0, none⟩ = some (.int .i64 (L.length : Int)) := by rw [blk_cell hblk]; rfl
    have c2 : wr.cell? ⟨w.heap.size, 2, none⟩ = some v := by rw [blk_cell hblk]; rfl
    have f0 := blk_free hblk 0
    have f1 := blk_free hblk 1
    have f2 := blk_free hblk 2
    have HB : Hid (wr.heap[w.heap.size]? = some (.cells (mapCells L.length (Pure.wid L) v) 64 (0, 0))) := hblk
    clear hblk
    by_cases hlt : k < s.size
    · by_cases hf : Pure.fits L r s[k] = true
      · have hd := drop_cons s k hlt
        by_cases h10 : s[k] = 10
        · have ht : (((s[k].toNat : Nat) : Int) == 10) = true := by rw [h10]; rfl
          have hne : ¬ (((s[k].toNat : Nat) : Int) == 10) = false := by rw [ht]; simp
          have HR : Hid (ParseRel s w (.pointer (some ⟨w.heap.size, 0, none⟩)) (.int .i64 ((L.length : Int) + 1 + 1)) (.int .i64 1) (.int .i64 ((k : Int) + 1)) ((wr.setCell ⟨w.heap.size, 0, none⟩ (.int .i64 ((L.length : Int) + 1))).setCell ⟨w.heap.size, 1, none⟩ (.int .i64 (r.length : Int)))) := by
            rw [h10] at hf hd
            have hrow := Pure.wid_row hf
            refine ⟨k + 1, L ++ [r], [], v, hlt, rfl, by go_num, by simp, by simp, Pure.inv_row hinv hf, ?_, ?_, ?_, ?_⟩
            · rw [hpar, hd, Pure.parse_line hf]
            · rw [blk_set (blk_set HB.out 0 _) 1 _, hrow]
              simp [mapCells]
            · have := owns_set (owns_set (b := w.heap.size) (j := 0) hown (by omega) (.int .i64 ((L.length : Int) + 1))) (b := w.heap.size) (j := 1) (by omega) (.int .i64 (r.length : Int))
              simpa using this
            · exact (hbel.setCell (Nat.le_refl _) _).setCell (Nat.le_refl _) _
          clear hpar hd h10 hown
          go_wp2_with (go_at_call 50; (with_reducible refine (takes_at s[k] w.heap.size _ hinv c1).mono ?_); rintro e w' ⟨rfl, rfl⟩; rw [hf])
          go_roundw
          case rel => exact HR.out
          case measure => simp [intOf]; omega
        · have ht : (((s[k].toNat : Nat) : Int) == 10) = false := by
            rw [beq_eq_false_iff_ne]; intro e; exact h10 ((ten_iff _).2 e)
          have hsz := Pure.inv_size hinv
          have HS : Hid (∀ (g cap : Nat) (w2 : World), w2.ownsRow (w.heap.size + 1) 5 1 (.slice (some ⟨g, 0, none⟩) (L.flatten.length + r.length + 1) cap) (L.flatten.length + r.length + 1) ((L.flatten ++ r).map byteV ++ [byteV s[k]]) → wr.grownBy w2 v.ownBlock →
              ParseRel s w (.pointer (some ⟨w.heap.size, 0, none⟩)) (.int .i64 ((L.length : Int) + 1)) (.int .i64 ((r.length : Int) + 1 + 1)) (.int .i64 ((k : Int) + 1)) (w2.setCell ⟨w.heap.size, 2, none⟩ (.slice (some ⟨g, 0, none⟩) (L.flatten.length + r.length + 1) cap))) := by
            intro g cap w2 ho hg
            have hb2 : w2.heap[w.heap.size]? = some (.cells (mapCells L.length (Pure.wid L) v) 64 (0, 0)) := by
              rw [hg.block _ (blk_lt HB.out) (fun e => by have := (hown.lt _ e.symm).1; omega)]
              exact HB.out
            refine ⟨k + 1, L, r ++ [s[k]], .slice (some ⟨g, 0, none⟩) (L.flatten.length + r.length + 1) cap, hlt, rfl, by go_num, rfl, by simp, Pure.inv_cell hinv h10 hf, ?_, ?_, ?_, ?_⟩
            · rw [hpar, hd, Pure.parse_take hf h10]
            · rw [blk_set hb2 2 _]; simp [mapCells]
            · have := owns_set (b := w.heap.size) (j := 2) ho (by omega) (.slice (some ⟨g, 0, none⟩) (L.flatten.length + r.length + 1) cap)
              simpa [Nat.add_assoc] using this
            · exact (hbel.grown hg hbel.size (fun j e => by have := (hown.lt j e).1; omega)).setCell (Nat.le_refl _) _
          have HO : Hid (wr.ownsRow (w.heap.size + 1) 5 1 v (L.flatten.length + r.length) ((L.flatten ++ r).map byteV)) := hown
          clear hpar hd h10 hown hbel
          go_wp2_with (go_at_call 50; (with_reducible refine (takes_at s[k] w.heap.size _ hinv c1).mono ?_); rintro e w' ⟨rfl, rfl⟩; rw [hf])
          have hsz0 : w.heap.size < wr.heap.size := blk_lt HB.out
          have HN : Hid (∀ w2, (wr.drew.alloc (.cells #[byteV s[k]] 5)).grownBy w2 v.ownBlock → w2.cell? ⟨w.heap.size, 2, none⟩ = some v ∧ w2.frozen? ⟨w.heap.size, 2, none⟩ = false) := by
            intro w2 hg
            have hb2 : w2.heap[w.heap.size]? = wr.heap[w.heap.size]? := (grown_new hg).block _ hsz0 (fun e => by have := (HO.out.lt _ e.symm).1; omega)
            exact ⟨(World.cell?_of_block (a := ⟨w.heap.size, 2, none⟩) hb2).trans c2, (World.frozen?_of_block (a := ⟨w.heap.size, 2, none⟩) hb2).trans f2⟩
          have hnb : L.flatten.length + r.length ≤ 1056 := hsz
          clear hinv hsz
          generalize L.flatten.length + r.length = n at HO HS hnb
          generalize (L.flatten ++ r).map byteV = xs at HO HS
          go_region_law (refine step_append_mine rfl (.tmp 43) (.tmp 47) 50 rfl (w.heap.size + 1) 5 i0 (.int .u8 0) 1 1 Tryz.underlying50 hi hz0 hz1 hz2 rfl (by decide) v n xs (by simp [Act.eval]) (HO.out.drew.alloc _) ⟨wr.heap.size, 0, none⟩ 1 1 [byteV s[k]] (by simp [Act.eval]) rfl (by intro t u ht; match t, ht with | 0, ht => simp at ht; subst ht; simp [Addr.add, byteV]) (by intro u hu; simp at hu; subst hu; rfl) (by unfold maxLen; omega) (by omega) (by simp; omega) (by decide) ?_; intro g2 cap2 w2 ho2 hg2; obtain ⟨hq1, hq2⟩ := HN.out w2 hg2)
          all_goals
            have HX := HS.out _ _ _ ho2 (grown_new hg2)
            have HXh : Hid (ParseRel s w (.pointer (some ⟨w.heap.size, 0, none⟩)) (.int .i64 ((L.length : Int) + 1)) (.int .i64 ((r.length : Int) + 1 + 1)) (.int .i64 ((k : Int) + 1)) (w2.setCell ⟨w.heap.size, 2, none⟩ (.slice (some ⟨g2, 0, none⟩) (n + 1) cap2))) := HX
            clear HX ho2 hg2 hq1 hq2
            go_wp2
            go_roundw
            case rel => exact HXh.out
            case measure => simp [intOf]; omega
      · have hf' : Pure.fits L r s[k] = false := by simpa using hf
        have HV := bad_stop (hpar.trans (by rw [drop_cons s k hlt]; exact Pure.parse_stop hf'))
        clear hf
        have HP : Hid (ParsePost s.data.toList w (.returned (.tuple #[.pointer none, .int .i64 ((L.length : Int) + 1), .int .i64 ((r.length : Int) + 1), .int .i64 10])) wr) := by
          refine ⟨hbel, ?_⟩
          rw [HV]; simp
        clear HV hpar
        go_wp2_with (go_at_call 50; (with_reducible refine (takes_at s[k] w.heap.size _ hinv c1).mono ?_); rintro e w' ⟨rfl, rfl⟩; rw [hf'])
        exact bodyPost_ret (v := .tuple #[.pointer none, .int .i64 ((L.length : Int) + 1), .int .i64 ((r.length : Int) + 1), .int .i64 10]) (by simp [results, Tryz.results13, go_sem]) rfl HP.out
    · obtain rfl : k = s.size := by omega
      have hp : Pure.parse s.data.toList [] [] = (true, L, r) := by rw [hpar, List.drop_of_length_le (by simp)]; rfl
      clear hpar
      by_cases hend : L = [] ∨ r ≠ []
      · have HV : Hid (ParsePost s.data.toList w (.returned (.tuple #[.pointer none, .int .i64 ((L.length : Int) + 1), .int .i64 ((r.length : Int) + 1), .int .i64 10])) wr) := by
          refine ⟨hbel, ?_⟩
          unfold Pure.verdict
          rw [hp]
          simp only [Pure.fin, if_pos hend]
          simp
        clear hp
        by_cases h1 : L.length ≤ 0
        · have h1' : Hid (L.length = 0) := (by omega : L.length = 0)
          clear hend
          go_wp2_with fail
          have e : (L.length : Int) + 1 = 1 := by rw [h1'.out]; rfl
          have HV' := HV.out
          rw [e] at HV'
          exact bodyPost_ret (v := .tuple #[.pointer none, .int .i64 1, .int .i64 ((r.length : Int) + 1), .int .i64 10]) (by simp [results, Tryz.results13, go_sem]) rfl HV'
        · have h2 : 1 ≤ r.length := by
            rcases hend with h | h
            · subst h; simp at h1
            · cases r with
              | nil => exact absurd rfl h
              | cons a l => simp
          have h1' : 1 ≤ L.length := by omega
          clear hend h1
          go_wp2_with fail
          exact bodyPost_ret (v := .tuple #[.pointer none, .int .i64 ((L.length : Int) + 1), .int .i64 ((r.length : Int) + 1), .int .i64 10]) (by simp [results, Tryz.results13, go_sem]) rfl HV.out
      · have hL : L ≠ [] := fun e => hend (Or.inl e)
        have hr : r = [] := Decidable.of_not_not (fun e => hend (Or.inr e))
        have hsz := Pure.flat_len L hinv.row
        have hpos := hinv.pos hL
        have h1 : 1 ≤ L.length := by
          cases L with
          | nil => exact absurd rfl hL
          | cons a l => simp
        have hr0 : r.length ≤ 0 := by rw [hr]; simp
        have hfl : 1 ≤ L.flatten.length := by rw [hsz]; exact Nat.mul_pos h1 hpos.1
        have hfl2 : L.flatten.length ≤ 1056 := by have := Pure.inv_size hinv; omega
        have hown' : wr.ownsRow (w.heap.size + 1) 5 1 v L.flatten.length (L.flatten.map byteV) := by rw [hr] at hown; simpa using hown
        obtain ⟨g, cap, rfl⟩ : ∃ g cap, v = .slice (some ⟨g, 0, none⟩) L.flatten.length cap := by
          rcases hown'.2 with ⟨_, h⟩ | ⟨g, cap, _, h, _⟩
          · omega
          · exact ⟨g, cap, h⟩
        have HM : Hid (MapAt wr w.heap.size g cap L) := ⟨HB.out, hown'⟩
        have HW : Hid ((frees L.flatten).length = 0 ↔ Pure.wall L = true) := frees_none _
        have HN : Hid (L.flatten.length ≤ 100000) := (by omega : L.flatten.length ≤ 100000)
        have HP : Hid (Pure.parse s.data.toList [] [] = (true, L, r)) := hp
        have HE : Hid (¬ (L = [] ∨ r ≠ [])) := hend
        have hbs : Hid (w.heap.size < wr.heap.size) := blk_lt HB.out
        clear hp hend hown hr hL hsz hown' hinv hfl hfl2 c2 HB
        have hb1 : (((L.length : Nat) : Int) + 1 == 1) = false := by rw [beq_eq_false_iff_ne]; omega
        have hb2 : decide (1 < ((r.length : Nat) : Int) + 1) = false := by simp; omega
        by_cases hz : (frees L.flatten).length ≤ 0
        · have HV : Hid (∀ w', Below wr.heap.size wr w' → ParsePost s.data.toList w (.returned (.tuple #[.pointer none, .int .i64 0, .int .i64 0, .int .i64 10])) w') := by
            intro w' hb
            refine ⟨hbel.trans (hb.mono hbel.size), ?_⟩
            unfold Pure.verdict
            rw [HP.out]
            simp only [Pure.fin]
            rw [if_neg HE.out, if_pos (HW.out.1 (by omega))]
            simp
          have hz' : ((frees L.flatten).length : Int) = 0 := by omega
          have HZ : Hid (((frees L.flatten).length : Int) = 0) := hz'
          clear hz'
          go_wp2_with (go_at_call 36; (with_reducible refine (all_map HM.out HN.out).mono ?_); rintro e w' ⟨a', cap', rfl, ho', hb'⟩)
          exact bodyPost_ret (v := .tuple #[.pointer none, .int .i64 0, .int .i64 0, .int .i64 10]) (by simp [results, Tryz.results13, go_sem]) rfl (HV.out _ (by assumption))
        · have HV : Hid (∀ w', Below wr.heap.size wr w' → ParsePost s.data.toList w (.returned (.tuple #[.pointer (some ⟨w.heap.size, 0, none⟩), .int .i64 0, .int .i64 0, .int .i64 0])) w') := by
            intro w' hb
            refine ⟨hbel.trans (hb.mono hbel.size), ?_⟩
            unfold Pure.verdict
            rw [HP.out]
            simp only [Pure.fin]
            rw [if_neg HE.out, if_neg (fun e => hz (by rw [HW.out.2 e]; exact Nat.le_refl _))]
            exact ⟨g, cap, by trivial, ⟨by rw [hb.block _ hbs.out]; exact HM.out.blk, owns_below HM.out.own hb (Nat.le_refl _)⟩⟩
          have hz' : 1 ≤ (frees L.flatten).length := by omega
          clear hz
          go_wp2_with (go_at_call 36; (with_reducible refine (all_map HM.out HN.out).mono ?_); rintro e w' ⟨a', cap', rfl, ho', hb'⟩)
          exact bodyPost_ret (v := .tuple #[.pointer (some ⟨w.heap.size, 0, none⟩), .int .i64 0, .int .i64 0, .int .i64 0]) (by simp [results, Tryz.results13, go_sem]) rfl (HV.out _ (by assumption))
end Go.Proofs.YtekhlaodlagbdaaGreatDoor
