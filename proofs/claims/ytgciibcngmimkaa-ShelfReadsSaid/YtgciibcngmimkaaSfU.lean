/-
  The document's Bytes.
-/
import Derived.Test.YtgciibcngmimkaaSfS
namespace Go.Proofs.Ytgciibcngmimkaa
set_option maxRecDepth 100000
set_option linter.unusedSimpArgs false
open Go Go.RowKit Sf

section
variable {P : Program} {ops : Array Oper} {o : Oper} {a : Act} {w w' : World} {v' sv xv : Value}
/-- An append whose run is known. -/
theorem wp_run {K : Act → World → Prop} {Q : Exit → Act → World → Prop} (s x : Operand) (t : TypeId) (ho : o.op = .call { callee := .builtin .append, args := #[s, x], argTypes := #[t, t] })
    (hs : a.eval s = sv) (hx : a.eval x = xv) (hr : (Builtin.append_ #[t, t] o.type #[sv, xv]).run P w = .ok v' w') (h : K (a.put o.dst v') w') : o.wp P a w K Q := by
  unfold Oper.wp execOp
  simp only [ho, resolve, invoke, builtin, Sem.run_bind, Sem.run_pure, Result.andThen_ok, List.map_toArray, List.map_cons, List.map_nil, hs, hx, hr]
  exact h
theorem step_run {K : Act → World → Prop} {Q : Exit → Act → World → Prop} {E : Prop} (hgd : o.guard = none) (s x : Operand) (t : TypeId) (ho : o.op = .call { callee := .builtin .append, args := #[s, x], argTypes := #[t, t] })
    (hs : a.eval s = sv) (hx : a.eval x = xv) (hr : (Builtin.append_ #[t, t] o.type #[sv, xv]).run P w = .ok v' w') (h : K (a.put o.dst v') w') : if Region.wanted o (yielded ops a.tmps) = true then Oper.wp P o a w K Q else E := by
  have hw : Region.wanted o (yielded ops a.tmps) = true := by simp [Region.wanted, hgd]
  rw [if_pos hw]
  exact wp_run s x t ho hs hx hr h
theorem wpList_run {rest : List Oper} {Q : Exit → Act → World → Prop} (hgd : o.guard = none) (s x : Operand) (t : TypeId) (ho : o.op = .call { callee := .builtin .append, args := #[s, x], argTypes := #[t, t] })
    (hs : a.eval s = sv) (hx : a.eval x = xv) (hr : (Builtin.append_ #[t, t] o.type #[sv, xv]).run P w = .ok v' w') (h : wpList P ops Q rest (a.put o.dst v') w') : wpList P ops Q (o :: rest) a w :=
  wpList_plain hgd fun _ hK => wp_run s x t ho hs hx hr (hK _ _ h)
end
set_option maxHeartbeats 8000000 in
theorem rbytes_any {w : World} {A : Option Addr} {l : List Rc} {cap : Nat} {M : List Ent} (h : RsAt w A l) (hM : l.map (·.r) = M.map toR) (hO : ∀ e ∈ M, OkE e) (hl : M.length ≤ 4096) :
    Calls Try.prog 21 #[.slice A l.length cap] w (ByQ w (byM M)) := by
  obtain ⟨i0, hi, hz0, hz1, hz2⟩ := info_parts Try.infoU8
  obtain ⟨P, hP⟩ : ∃ P, P = ByQ w (byM M) := ⟨_, rfl⟩
  have hlM : l.length = M.length := by have := congrArg List.length hM; simpa using this
  have HP : Hid (∀ v V, V.ownsRow w.heap.size 5 1 v (byM M).length ((byM M).map byV) → Below w.heap.size w V → P (.returned v) V) := Lib.hid (fun v V h1 h2 => by rw [hP]; exact ⟨v, rfl, h1, h2⟩)
  rw [← hP]
  clear hP
  have hbl := byM_len hO hl
  have HT : Hid (∀ j, j < M.length → byM (M.take (j + 1)) = byM (M.take j) ++ enB (M.getD j (0, [])) ∧ (l.getD j default).r = toR (M.getD j (0, [])) ∧ OkE (M.getD j (0, [])) ∧ (byM (M.take j)).length + 5 + (M.getD j (0, [])).2.length ≤ 5000000) := by
    refine Lib.hid (fun j hj => ?_)
    have e1 : byM (M.take (j + 1)) = byM (M.take j) ++ enB (M.getD j (0, [])) := by rw [take_snoc' hj, byM_snoc]
    refine ⟨e1, ?_, ?_, ?_⟩
    · have e : (l.map (·.r)).getD j ⟨0, 0, []⟩ = (l.getD j default).r := by
        simp only [List.getD, List.getElem?_map]
        cases l[j]? <;> rfl
      rw [← e, hM]
      simp [List.getD, hj]
    · have : M.getD j (0, []) = M[j] := by simp [List.getD, hj]
      rw [this]; exact hO _ (List.getElem_mem _)
    · have h1 : (byM (M.take (j + 1))).length ≤ (byM M).length := by
        have := congrArg List.length (congrArg byM (List.take_append_drop (j + 1) M))
        rw [show byM (M.take (j + 1) ++ M.drop (j + 1)) = byM (M.take (j + 1)) ++ byM (M.drop (j + 1)) by unfold byM; exact List.flatMap_append, List.length_append] at this
        omega
      rw [e1, List.length_append, enB_length] at h1
      omega
  have HR := Lib.hid h
  clear h hbl hO hM
  obtain ⟨L, hL⟩ : ∃ L, L = l.length := ⟨_, rfl⟩
  have HL := Lib.hid hL
  have hLM : L = M.length := by rw [hL, hlM]
  have hL4 : L ≤ 4096 := by omega
  have HLM := Lib.hid hLM
  rw [← hL]
  clear hL hlM hLM hl
  go_enter Try.func21, Try.ntmps21
  go_wp2_with fail
  have H0 : Hid (w.ownsRow w.heap.size 5 1 (.slice none 0 0) (byM (M.take 0)).length ((byM (M.take 0)).map byV)) := Lib.hid (World.ownsRow_nil _ _ _ _)
  go_loopw [3, 4] (fun out i wr => ∃ (j : Nat) (v : Value), j ≤ L ∧ i = .int .i64 (j : Int) ∧ v = out ∧ wr.ownsRow w.heap.size 5 1 v (byM (M.take j)).length ((byM (M.take j)).map byV) ∧ Below w.heap.size w wr) (fun _ i _ => L - (intOf i).toNat)
  case atStart => exact ⟨0, _, by omega, rfl, rfl, H0.out, Below.refl _ w⟩
  case round =>
    obtain ⟨j, out, hj, rfl, hout, h1, h2⟩ := hrel
    subst hout
    rename World => V
    have HO := Lib.hid h1
    have HB := Lib.hid h2
    clear h1 h2 H0
    by_cases hlt : j < L
    · have hjl : j < l.length := by rw [← HL.out]; exact hlt
      obtain ⟨a, rfl, ⟨c0, c1, c2⟩, hrk⟩ := (HR.out.below HB.out) j hjl
      obtain ⟨t1, t2, t3, t4⟩ := HT.out j (by rw [← HLM.out]; exact hlt)
      generalize M.getD j (0, []) = en at *
      rw [t2] at c0 c1 c2 hrk
      dsimp only [toR] at c0 c1 c2
      obtain ⟨k, hk⟩ : ∃ k, k = en.1 / 65536 := ⟨_, rfl⟩
      obtain ⟨n, hn⟩ : ∃ n, n = en.1 % 65536 := ⟨_, rfl⟩
      have hk255 : k ≤ 255 := by rw [hk]; exact t3.k
      have hn1024 : n ≤ 1024 := by rw [hn]; exact t3.n
      have hd1024 : en.2.length ≤ 1024 := t3.len
      rw [← hk] at c0
      rw [← hn] at c1
      obtain ⟨ad, had⟩ : ∃ ad, (l.getD j default).A = some ad := by
        cases hA : (l.getD j default).A with
        | none => exact absurd (hrk.nil hA).1 t3.ne
        | some ad => exact ⟨ad, rfl⟩
      rw [had] at c2 hrk
      obtain ⟨cp, hcp⟩ : ∃ cp, cp = (l.getD j default).cap := ⟨_, rfl⟩
      rw [← hcp] at c2 hrk
      have HCP := Lib.hid hcp
      clear hcp
      obtain ⟨D, hD⟩ : ∃ D, D = en.2.length := ⟨_, rfl⟩
      rw [← hD] at c2 hd1024 t4
      have j0 : (0 : Int) ≤ (j : Int) := by omega
      have j1 : (j : Int) < (L : Int) := by omega
      obtain ⟨L0, hL0⟩ : ∃ L0, L0 = (byM (M.take j)).length := ⟨_, rfl⟩
      rw [← hL0] at t4
      have HK := Lib.hid hk
      have HN := Lib.hid hn
      have HDD := Lib.hid hD
      have HL0 := Lib.hid hL0
      clear hk hn hD hL0
      have x1 : IntKind.u8.wrap (k : Int) = (k : Int) := by simp [IntKind.wrap, IntKind.bits, IntKind.signed]; omega
      have y2 : IntKind.i64.wrap ((n : Int) / 256) = ((n / 256 : Nat) : Int) := by rw [show (n : Int) / 256 = ((n / 256 : Nat) : Int) by omega]; exact i64_nat (by omega)
      have y4 : IntKind.i64.wrap ((D : Int) / 256) = ((D / 256 : Nat) : Int) := by rw [show (D : Int) / 256 = ((D / 256 : Nat) : Int) by omega]; exact i64_nat (by omega)
      have x2 : IntKind.u8.wrap ((n : Int) / 256) = (n : Int) / 256 := by simp only [IntKind.wrap, IntKind.bits, IntKind.signed]; simp; omega
      have x4 : IntKind.u8.wrap ((D : Int) / 256) = (D : Int) / 256 := by simp only [IntKind.wrap, IntKind.bits, IntKind.signed]; simp; omega
      have y3 : (n : Int).tmod 256 = ((n % 256 : Nat) : Int) := by rw [Int.tmod_eq_emod_of_nonneg (by omega)]; rfl
      have y5 : (D : Int).tmod 256 = ((D % 256 : Nat) : Int) := by rw [Int.tmod_eq_emod_of_nonneg (by omega)]; rfl
      have x3 : IntKind.u8.wrap ((n : Int) % 256) = (n : Int) % 256 := by simp [IntKind.wrap, IntKind.bits, IntKind.signed]
      have x5 : IntKind.u8.wrap ((D : Int) % 256) = (D : Int) % 256 := by simp [IntKind.wrap, IntKind.bits, IntKind.signed]
      obtain ⟨W5, hW5⟩ : ∃ W5, W5 = (V.alloc (.cells #[byV k, byV (n / 256), byV (n % 256), byV (D / 256), byV (D % 256)] 5)).drew := ⟨_, rfl⟩
      have hB5 : Below w.heap.size w W5 := by rw [hW5]; exact (HB.out.alloc HB.out.size _).drew
      have hrow5 : W5.ownsRow w.heap.size 5 1 out L0 ((byM (M.take j)).map byV) := by rw [hW5, HL0.out]; exact (HO.out.alloc _).drew
      have hnew5 : ∀ (q : Nat) (u : Value), [byV k, byV (n / 256), byV (n % 256), byV (D / 256), byV (D % 256)][q]? = some u → W5.cell? ((⟨V.heap.size, 0, none⟩ : Addr).add q) = some u := by
        rw [hW5]
        exact World.news_of_block (cs := #[byV k, byV (n / 256), byV (n % 256), byV (D / 256), byV (D % 256)]) (World.alloc_heap_new V _)
      have hs5 : w.heap.size ≤ W5.heap.size := hB5.size
      obtain ⟨v6, W6, hr6, ho6, hg6, _, _⟩ := run_append_own_at (P := Try.prog) W5 w.heap.size 30 30 5 i0 (.int .u8 0) 1 1 Try.underlying30 hi hz0 hz1 hz2 rfl (by decide) out L0 ((byM (M.take j)).map byV) hrow5 ⟨V.heap.size, 0, none⟩ 5 5 [byV k, byV (n / 256), byV (n % 256), byV (D / 256), byV (D % 256)] rfl hnew5 (by intro u hu; simp at hu; rcases hu with rfl | rfl | rfl | rfl | rfl <;> rfl) (by unfold maxLen; omega) (by omega) hs5
      have hB6 : Below w.heap.size w W6 := hB5.grown hg6 hs5 (fun q e => (hrow5.lt q e).1)
      have hs6 : w.heap.size ≤ W6.heap.size := hB6.size
      obtain ⟨aa, ea, ⟨c05, c15, _⟩, _⟩ := (HR.out.below hB5) j hjl
      injection ea with ea
      subst ea
      obtain ⟨aa, ea, ⟨c06, c16, c26⟩, hrk6⟩ := (HR.out.below hB6) j hjl
      injection ea with ea
      subst ea
      rw [t2] at c05 c15 c06 c16 c26 hrk6
      dsimp only [toR] at c05 c15 c06 c16 c26 hrk6
      rw [← HK.out] at c05 c06
      rw [← HN.out] at c15 c16
      rw [had, ← HDD.out, ← HCP.out] at c26
      rw [had] at hrk6
      have hrd6 : ∀ (q : Nat) (u : Value), (en.2.map byV)[q]? = some u → W6.cell? (ad.add q) = some u := bytes_src hrk6.dat
      obtain ⟨v7, W7, hr7, ho7, hg7, _, _⟩ := run_append_own_at (P := Try.prog) W6 w.heap.size 30 30 5 i0 (.int .u8 0) 1 1 Try.underlying30 hi hz0 hz1 hz2 rfl (by decide) v6 (L0 + 5) _ ho6 ad D cp (en.2.map byV) (by rw [List.length_map, ← HDD.out]; omega) hrd6 (by intro u hu; obtain ⟨x, _, rfl⟩ := List.mem_map.1 hu; rfl) (by unfold maxLen; omega) (by omega) hs6
      have hB7 : Below w.heap.size w W7 := hB6.grown hg7 hs6 (fun q e => (ho6.lt q e).1)
      have ho8 : W7.ownsRow w.heap.size 5 1 v7 (byM (M.take (j + 1))).length ((byM (M.take (j + 1))).map byV) := by
        have el : (byM (M.take (j + 1))).length = L0 + 5 + D := by rw [t1, List.length_append, enB_length, ← HDD.out, ← HL0.out]; omega
        have em : (byM (M.take (j + 1))).map byV = (byM (M.take j)).map byV ++ [byV k, byV (n / 256), byV (n % 256), byV (D / 256), byV (D % 256)] ++ en.2.map byV := by
          rw [t1, List.map_append, List.append_assoc]
          congr 1
          have e3 : en.1 % 256 = n % 256 := by have := HN.out; omega
          simp only [enB, hdB, List.map_append, List.map_cons, List.map_nil, ← HK.out, ← HN.out, ← HDD.out, e3]
        rw [el, em]
        exact ho7
      have hS5 : W5.cell? (a.add (j * 3)) = some (.int .i64 (k : Int)) ∧ W5.cell? ⟨(a.add (j * 3)).block, (a.add (j * 3)).off + 1, none⟩ = some (.int .i64 (n : Int)) := ⟨c05, c15⟩
      have hS6 : W6.cell? (a.add (j * 3)) = some (.int .i64 (k : Int)) ∧ W6.cell? ⟨(a.add (j * 3)).block, (a.add (j * 3)).off + 1, none⟩ = some (.int .i64 (n : Int)) := ⟨c06, c16⟩
      have HO8 := Lib.hid ho8
      have HB7 := Lib.hid hB7
      clear ho8 hB7 ho7 hg7 hrd6 hrk6 hg6 ho6 hB6 hB5 hrow5 hnew5 c05 c15 c06 c16 t1 t2 t3 hs5 hs6 HO HB hrk had
      go_upto_region 6 with fail
      refine wp_region_held_drew (S := fun U => U.cell? (a.add (j * 3)) = some (.int .i64 (k : Int)) ∧ U.cell? ⟨(a.add (j * 3)).block, (a.add (j * 3)).off + 1, none⟩ = some (.int .i64 (n : Int))) (by kernel_rfl) ⟨c0, c1⟩ (fun hHeld => ?_)
      simp only [List.size_toArray, List.length_cons, List.length_nil, Nat.reduceAdd, Array.replicate_succ, Array.replicate_zero, List.push_toArray, List.nil_append, List.cons_append, List.append_toArray]
      refine take_op (i := 0) (v := ?_) rfl (by kernel_rfl) (by kernel_rfl) (by kernel_rfl) (fun _ _ _ h => h) (Or.inl ⟨by rfl, ?_⟩) (by assumption) ?_
      rotate_left
      · (intro w' hSw; (try dsimp only at hSw); go_simp; (try with_reducible rfl))
      simp only [Act.put, List.setIfInBounds_toArray, List.set_cons_zero, List.set_cons_succ]
      refine take_op (i := 1) (v := ?_) rfl (by kernel_rfl) (by kernel_rfl) (by kernel_rfl) (fun _ _ _ h => h) (Or.inl ⟨by rfl, ?_⟩) (by assumption) ?_
      rotate_left
      · (intro w' hSw; (try dsimp only at hSw); go_simp; (try with_reducible rfl))
      simp only [Act.put, List.setIfInBounds_toArray, List.set_cons_zero, List.set_cons_succ]
      refine take_op (i := 2) (v := ?_) rfl (by kernel_rfl) (by kernel_rfl) (by kernel_rfl) (fun _ _ _ h => h) (Or.inl ⟨by rfl, ?_⟩) (by assumption) ?_
      rotate_left
      · (intro w' hSw; (try dsimp only at hSw); go_simp; (try with_reducible rfl))
      simp only [Act.put, List.setIfInBounds_toArray, List.set_cons_zero, List.set_cons_succ]
      refine take_op (i := 3) (v := ?_) rfl (by kernel_rfl) (by kernel_rfl) (by kernel_rfl) (fun _ _ _ h => h) (Or.inl ⟨by rfl, ?_⟩) (by assumption) ?_
      rotate_left
      · (intro w' hSw; (try dsimp only at hSw); go_simp; (try with_reducible rfl))
      simp only [Act.put, List.setIfInBounds_toArray, List.set_cons_zero, List.set_cons_succ]
      refine take_op (i := 4) (v := ?_) rfl (by kernel_rfl) (by kernel_rfl) (by kernel_rfl) (fun _ _ _ h => h) (Or.inl ⟨by rfl, ?_⟩) (by assumption) ?_
      rotate_left
      · (intro w' hSw; (try dsimp only at hSw); go_simp; (try with_reducible rfl))
      simp only [Act.put, List.setIfInBounds_toArray, List.set_cons_zero, List.set_cons_succ]
      refine take_op (i := 5) (v := ?_) rfl (by kernel_rfl) (by kernel_rfl) (by kernel_rfl) (fun _ _ _ h => h) (Or.inl ⟨by rfl, ?_⟩) (by assumption) ?_
      rotate_left
      · (intro w' hSw; obtain ⟨c0', c1'⟩ := hSw; go_simp; (try with_reducible rfl))
      simp only [Act.put, List.setIfInBounds_toArray, List.set_cons_zero, List.set_cons_succ]
      refine take_op (i := 6) (v := ?_) rfl (by kernel_rfl) (by kernel_rfl) (by kernel_rfl) (fun _ _ _ h => h) (Or.inl ⟨by rfl, ?_⟩) (by assumption) ?_
      rotate_left
      · (intro w' hSw; (try dsimp only at hSw); go_simp; (try with_reducible rfl))
      simp only [Act.put, List.setIfInBounds_toArray, List.set_cons_zero, List.set_cons_succ]
      refine take_op (i := 7) (v := ?_) rfl (by kernel_rfl) (by kernel_rfl) (by kernel_rfl) (fun _ _ _ h => h) (Or.inl ⟨by rfl, ?_⟩) (by assumption) ?_
      rotate_left
      · (intro w' hSw; (try dsimp only at hSw); go_simp; (try with_reducible rfl))
      simp only [Act.put, List.setIfInBounds_toArray, List.set_cons_zero, List.set_cons_succ]
      refine take_op (i := 8) (v := ?_) rfl (by kernel_rfl) (by kernel_rfl) (by kernel_rfl) (fun _ _ _ h => h) (Or.inl ⟨by rfl, ?_⟩) (by assumption) ?_
      rotate_left
      · (intro w' hSw; (try dsimp only at hSw); go_simp; (try with_reducible rfl))
      simp only [Act.put, List.setIfInBounds_toArray, List.set_cons_zero, List.set_cons_succ]
      refine take_op (i := 9) (v := ?_) rfl (by kernel_rfl) (by kernel_rfl) (by kernel_rfl) (fun _ _ _ h => h) (Or.inl ⟨by rfl, ?_⟩) (by assumption) ?_
      rotate_left
      · (intro w' hSw; (try dsimp only at hSw); go_simp; (try with_reducible rfl))
      simp only [Act.put, List.setIfInBounds_toArray, List.set_cons_zero, List.set_cons_succ]
      refine take_op (i := 10) (v := ?_) rfl (by kernel_rfl) (by kernel_rfl) (by kernel_rfl) (fun _ _ _ h => h) (Or.inl ⟨by rfl, ?_⟩) (by assumption) ?_
      rotate_left
      · (intro w' hSw; (try dsimp only at hSw); go_simp; (try with_reducible rfl))
      simp only [Act.put, List.setIfInBounds_toArray, List.set_cons_zero, List.set_cons_succ]
      refine take_op (i := 11) (v := ?_) rfl (by kernel_rfl) (by kernel_rfl) (by kernel_rfl) (fun _ _ _ h => h) (Or.inl ⟨by rfl, ?_⟩) (by assumption) ?_
      rotate_left
      · (intro w' hSw; obtain ⟨c0', c1'⟩ := hSw; go_simp; (try with_reducible rfl))
      simp only [Act.put, List.setIfInBounds_toArray, List.set_cons_zero, List.set_cons_succ]
      refine take_op (i := 12) (v := ?_) rfl (by kernel_rfl) (by kernel_rfl) (by kernel_rfl) (fun _ _ _ h => h) (Or.inl ⟨by rfl, ?_⟩) (by assumption) ?_
      rotate_left
      · (intro w' hSw; (try dsimp only at hSw); go_simp; (try with_reducible rfl))
      simp only [Act.put, List.setIfInBounds_toArray, List.set_cons_zero, List.set_cons_succ]
      refine take_op (i := 13) (v := ?_) rfl (by kernel_rfl) (by kernel_rfl) (by kernel_rfl) (fun _ _ _ h => h) (Or.inl ⟨by rfl, ?_⟩) (by assumption) ?_
      rotate_left
      · (intro w' hSw; (try dsimp only at hSw); go_simp; (try with_reducible rfl))
      simp only [Act.put, List.setIfInBounds_toArray, List.set_cons_zero, List.set_cons_succ]
      refine take_op (i := 14) (v := ?_) rfl (by kernel_rfl) (by kernel_rfl) (by kernel_rfl) (fun _ _ _ h => h) (Or.inl ⟨by rfl, ?_⟩) (by assumption) ?_
      rotate_left
      · (intro w' hSw; (try dsimp only at hSw); go_simp; (try with_reducible rfl))
      simp only [Act.put, List.setIfInBounds_toArray, List.set_cons_zero, List.set_cons_succ]
      refine take_op (i := 15) (v := ?_) rfl (by kernel_rfl) (by kernel_rfl) (by kernel_rfl) (fun _ _ _ h => h) (Or.inl ⟨by rfl, ?_⟩) (by assumption) ?_
      rotate_left
      · (intro w' hSw; (try dsimp only at hSw); go_simp; (try with_reducible rfl))
      simp only [Act.put, List.setIfInBounds_toArray, List.set_cons_zero, List.set_cons_succ]
      refine take_op (i := 16) (v := ?_) rfl (by kernel_rfl) (by kernel_rfl) (by kernel_rfl) (fun _ _ _ h => h) (Or.inl ⟨by rfl, ?_⟩) (by assumption) ?_
      rotate_left
      · (intro w' hSw; (try dsimp only at hSw); go_simp; (try with_reducible rfl))
      simp only [Act.put, List.setIfInBounds_toArray, List.set_cons_zero, List.set_cons_succ]
      refine take_op (i := 17) (v := ?_) rfl (by kernel_rfl) (by kernel_rfl) (by kernel_rfl) (fun _ _ _ h => h) (Or.inl ⟨by rfl, ?_⟩) (by assumption) ?_
      rotate_left
      · (intro w' hSw; (try dsimp only at hSw); go_simp; (try with_reducible rfl))
      simp only [Act.put, List.setIfInBounds_toArray, List.set_cons_zero, List.set_cons_succ]
      refine take_op (i := 18) (v := ?_) rfl (by kernel_rfl) (by kernel_rfl) (by kernel_rfl) (fun _ _ _ h => h) (Or.inl ⟨by rfl, ?_⟩) (by assumption) ?_
      rotate_left
      · (intro w' hSw; obtain ⟨c0', c1'⟩ := hSw; go_simp; (try with_reducible rfl))
      simp only [Act.put, List.setIfInBounds_toArray, List.set_cons_zero, List.set_cons_succ]
      refine take_op (i := 19) (v := ?_) rfl (by kernel_rfl) (by kernel_rfl) (by kernel_rfl) (fun _ _ _ h => h) (Or.inl ⟨by rfl, ?_⟩) (by assumption) ?_
      rotate_left
      · (intro w' hSw; (try dsimp only at hSw); go_simp; (try with_reducible rfl))
      simp only [Act.put, List.setIfInBounds_toArray, List.set_cons_zero, List.set_cons_succ]
      refine take_op (i := 20) (v := ?_) rfl (by kernel_rfl) (by kernel_rfl) (by kernel_rfl) (fun _ _ _ h => h) (Or.inl ⟨by rfl, ?_⟩) (by assumption) ?_
      rotate_left
      · (intro w' hSw; (try dsimp only at hSw); go_simp; (try with_reducible rfl))
      simp only [Act.put, List.setIfInBounds_toArray, List.set_cons_zero, List.set_cons_succ]
      refine take_op (i := 21) (v := ?_) rfl (by kernel_rfl) (by kernel_rfl) (by kernel_rfl) (fun _ _ _ h => h) (Or.inl ⟨by rfl, ?_⟩) (by assumption) ?_
      rotate_left
      · (intro w' hSw; (try dsimp only at hSw); go_simp; (try with_reducible rfl))
      simp only [Act.put, List.setIfInBounds_toArray, List.set_cons_zero, List.set_cons_succ]
      refine take_op (i := 22) (v := ?_) rfl (by kernel_rfl) (by kernel_rfl) (by kernel_rfl) (fun _ _ _ h => h) (Or.inl ⟨by rfl, ?_⟩) (by assumption) ?_
      rotate_left
      · (intro w' hSw; (try dsimp only at hSw); go_simp; (try with_reducible rfl))
      simp only [Act.put, List.setIfInBounds_toArray, List.set_cons_zero, List.set_cons_succ]
      refine take_op (i := 23) (v := ?_) rfl (by kernel_rfl) (by kernel_rfl) (by kernel_rfl) (fun _ _ _ h => h) (Or.inl ⟨by rfl, ?_⟩) (by assumption) ?_
      rotate_left
      · (intro w' hSw; (try dsimp only at hSw); go_simp; (try with_reducible rfl))
      simp only [Act.put, List.setIfInBounds_toArray, List.set_cons_zero, List.set_cons_succ]
      refine take_op (i := 24) (v := ?_) rfl (by kernel_rfl) (by kernel_rfl) (by kernel_rfl) (fun _ _ _ h => h) (Or.inl ⟨by rfl, ?_⟩) (by assumption) ?_
      rotate_left
      · (intro w' hSw; (try dsimp only at hSw); go_simp; (try with_reducible rfl))
      simp only [Act.put, List.setIfInBounds_toArray, List.set_cons_zero, List.set_cons_succ]
      refine take_op (i := 25) (v := ?_) rfl (by kernel_rfl) (by kernel_rfl) (by kernel_rfl) (fun _ _ _ h => h) (Or.inl ⟨by rfl, ?_⟩) (by assumption) ?_
      rotate_left
      · (intro w' hSw; (try dsimp only at hSw); go_simp; (try with_reducible rfl))
      simp only [Act.put, List.setIfInBounds_toArray, List.set_cons_zero, List.set_cons_succ]
      refine take_op (i := 26) (v := ?_) rfl (by kernel_rfl) (by kernel_rfl) (by kernel_rfl) (fun _ _ _ h => h) (Or.inl ⟨by rfl, ?_⟩) (by assumption) ?_
      rotate_left
      · (intro w' hSw; (try dsimp only at hSw); go_simp; (try with_reducible rfl))
      simp only [Act.put, List.setIfInBounds_toArray, List.set_cons_zero, List.set_cons_succ]
      refine wpAnyH_ready (rs := [27]) (by kernel_rfl) (by simp) ?_
      refine cons_op rfl (fun K hK => ?_) AllReadyH.nil
      go_simp
      rw [show (V.alloc (.cells #[.int .u8 (k : Int), .int .u8 ((n : Int) / 256), .int .u8 ((n : Int) % 256), .int .u8 ((D : Int) / 256), .int .u8 ((D : Int) % 256)] 5)).drew = W5 by rw [hW5]; simp [byV]]
      clear hW5 x1 x2 x3 x4 x5 y2 y3 y4 y5
      refine hK.out _ _ hS5 (fun hHeld => ?_)
      clear hK K
      (try simp only [Act.put, List.setIfInBounds_toArray, List.set_cons_zero, List.set_cons_succ])
      refine wpAnyH_ready (rs := [28]) (by kernel_rfl) (by simp) ?_
      refine cons_op rfl (fun K hK => ?_) AllReadyH.nil
      refine step_run rfl (.tmp 18) (.tmp 45) 30 rfl (by simp [Act.eval]) (by simp [Act.eval]) hr6 ?_
      refine hK.out _ _ hS6 (fun hHeld => ?_)
      clear hK K
      (try simp only [Act.put, List.setIfInBounds_toArray, List.set_cons_zero, List.set_cons_succ])
      refine take_op (i := 29) (v := ?_) rfl (by kernel_rfl) (by kernel_rfl) (by kernel_rfl) (fun _ _ _ h => h) (Or.inl ⟨by rfl, ?_⟩) (by assumption) ?_
      rotate_left
      · (intro w' hSw; (try dsimp only at hSw); go_simp; (try with_reducible rfl))
      simp only [Act.put, List.setIfInBounds_toArray, List.set_cons_zero, List.set_cons_succ]
      refine wpAnyH_done (by kernel_rfl) ?_ _
      clear hr6
      go_wp2_with (at_builtin; refine wpList_run rfl (.tmp 47) (.tmp 52) 30 rfl (by simp [Act.eval]) (by simp [Act.eval]) hr7 ?_)
      go_roundw
      case rel => exact ⟨j + 1, v7, by omega, by go_num, rfl, HO8.out, HB7.out⟩
      case measure => simp [intOf]; omega
    · obtain rfl : j = L := by omega
      have e : byM (M.take j) = byM M := by rw [List.take_of_length_le (by rw [← HLM.out]; omega)]
      have hoo := HO.out
      rw [e] at hoo
      have HF := Lib.hid (HP.out _ _ hoo HB.out)
      clear hoo
      go_wp2
      exact HF.out
end Go.Proofs.Ytgciibcngmimkaa
