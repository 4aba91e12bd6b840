/-
  Of packets' bytes: plain facts for WireSizes.
-/
import Derived.Test.YtmfbokaaoffdnaaDoorWrG
import Derived.Deep.RegionHeld3
import Derived.Deep.DeepCutAuto
namespace Go.Proofs.YtmfbokaaoffdnaaDoor
set_option maxRecDepth 100000
set_option linter.unusedSimpArgs false
open Go Go.RowKit Wr

namespace Wr
theorem dbl_get : ∀ (l : List Nat) (k : Nat), (dbl l)[2 * k]? = l[k]? ∧ (dbl l)[2 * k + 1]? = l[k]?.map (255 - ·)
  | [], k => by simp [dbl]
  | c :: l, 0 => by rw [dbl_cons]; simp
  | c :: l, k + 1 => by
    rw [dbl_cons, show 2 * (k + 1) = 2 * k + 1 + 1 by omega]
    simp only [List.getElem?_cons_succ]
    exact dbl_get l k
/-- Of a packet's bytes: byte 36 is the kind; each has its complement behind it. -/
theorem plain_lt (p : Pkt) : ∀ c ∈ plain p, c < 256 := by
  intro c hc
  unfold plain body clm at hc
  simp only [List.mem_append, List.mem_flatMap] at hc
  rcases hc with h | h | h | h | h | h | h | ⟨_, _, h⟩ | ⟨_, _, h | h⟩ <;> exact be_lt h
theorem bytes_pair (p : Pkt) {k : Nat} (hk : 2 * k < (bytes p).length) : 2 * k + 1 < (bytes p).length ∧ (bytes p).getD (2 * k) 0 < 256 ∧ (bytes p).getD (2 * k) 0 + (bytes p).getD (2 * k + 1) 0 = 255 := by
  have hl : (bytes p).length = 2 * (plain p).length := dbl_length _
  have hk' : k < (plain p).length := by omega
  obtain ⟨h1, h2⟩ := dbl_get (plain p) k
  have hm := plain_lt p _ (List.getElem_mem hk')
  have e1 : (bytes p).getD (2 * k) 0 = (plain p)[k] := by
    rw [List.getD_eq_getElem?_getD]; unfold bytes; rw [h1]; simp [hk']
  have e2 : (bytes p).getD (2 * k + 1) 0 = 255 - (plain p)[k] := by
    rw [List.getD_eq_getElem?_getD]; unfold bytes; rw [h2]; simp [hk']
  rw [e1, e2]
  omega
def withN (p : Pkt) (s m : Nat) : Pkt := { p with seq := s, met := m }
theorem withN_ok (p : Pkt) (s m : Nat) : okP (withN p s m) = okP p := rfl
theorem withN_fits {p : Pkt} (h : Fits p) {s m : Nat} (hs : s < 4294967296) (hm : m < 4294967296) : Fits (withN p s m) := ⟨h.fe, h.te, hs, hm, h.gen, h.stamp, h.cgen⟩
theorem withN_len (p : Pkt) (s m : Nat) : (bytes (withN p s m)).length = (bytes p).length := by
  unfold bytes; rw [dbl_length, dbl_length]; simp [plain, withN, be_length]
theorem plain_parts (p : Pkt) : ∃ X Y : List Nat, X.length = 10 ∧ ∀ s m, plain (withN p s m) = X ++ (be 4 (s : Int) ++ be 4 (m : Int) ++ Y) ∧ Y[0]? = some (p.msg.kind % 256).toNat := by
  refine ⟨be 1 p.from_ ++ (be 1 p.to_ ++ (be 4 (p.fe : Int) ++ be 4 (p.te : Int))), be 1 p.msg.kind ++ body p.msg, by simp [be_length], fun s m => ⟨by simp [plain, withN, List.append_assoc], ?_⟩⟩
  simp [be]
theorem withN_self (p : Pkt) : withN p p.seq p.met = p := rfl
theorem bytes_even (p : Pkt) (s m : Nat) {k : Nat} (h : 2 * k < 20 ∨ 36 ≤ 2 * k) : (bytes (withN p s m)).getD (2 * k) 0 = (bytes p).getD (2 * k) 0 := by
  obtain ⟨X, Y, hX, hp⟩ := plain_parts p
  have e1 := (hp s m).1
  have e2 := (hp p.seq p.met).1
  rw [withN_self] at e2
  have g1 := (dbl_get (plain (withN p s m)) k).1
  have g2 := (dbl_get (plain p) k).1
  have : (plain (withN p s m))[k]? = (plain p)[k]? := by
    rw [e1, e2]
    by_cases hk : k < 10
    · rw [List.getElem?_append_left (by omega), List.getElem?_append_left (by omega)]
    · have key : ∀ Z : List Nat, Z.length = 8 → (X ++ (Z ++ Y))[k]? = Y[k - 18]? := by
        intro Z hZ
        rw [List.getElem?_append_right (by omega : X.length ≤ k), List.getElem?_append_right (by omega : Z.length ≤ k - X.length)]
        congr 1
        omega
      rw [key _ (by simp [be_length]), key _ (by simp [be_length])]
  rw [List.getD_eq_getElem?_getD, List.getD_eq_getElem?_getD]
  unfold bytes
  rw [g1, g2, this]
theorem bytes_36 {p : Pkt} (h : okP p = true) : (((bytes p).getD 36 0 : Nat) : Int) = p.msg.kind := by
  obtain ⟨X, Y, hX, hp⟩ := plain_parts p
  obtain ⟨e2, hY⟩ := hp p.seq p.met
  rw [withN_self] at e2
  have g2 := (dbl_get (plain p) 18).1
  have : (plain p)[18]? = Y[0]? := by
    rw [e2, List.getElem?_append_right (by omega), List.getElem?_append_right (by simp [be_length, hX])]
    simp [be_length, hX]
  have hk : 1 ≤ p.msg.kind ∧ p.msg.kind ≤ 11 := by
    have := okP_msg h
    simp only [okM, Bool.and_eq_true] at this; exact of_decide_eq_true this.1.1
  rw [List.getD_eq_getElem?_getD]
  unfold bytes
  rw [show 36 = 2 * 18 by omega, g2, this, hY]
  simp
  omega
theorem bytes_38 (p : Pkt) : 38 ≤ (bytes p).length ∧ (bytes p).length % 2 = 0 := by
  rw [bytes_len]; unfold sizeM; omega
theorem bytes_le {p : Pkt} (h : okP p = true) : (bytes p).length ≤ 400 := by rw [bytes_len]; exact sizeM_le (okM_claims (okP_msg h))
end Wr

theorem belowN' {B : Nat} {a w : World} (h : Below B a w) (n : Nat) : Below B a (w.drewN n) := ⟨h.os, h.tape, h.output, h.size, h.block⟩
/-- A packet in a block. -/
theorem pkt_cells {W : World} {b : Nat} {p : Pkt} {A : Option Addr} {n cap : Nat} {t : TypeId} (h : W.heap[b]? = some (.cells (pktC p A n cap) t (0, 0))) :
    W.cell? ⟨b, 0, none⟩ = some (.int .i64 p.from_) ∧ W.cell? ⟨b, 1, none⟩ = some (.int .i64 p.to_) ∧ W.cell? ⟨b, 2, none⟩ = some (.int .u32 (p.fe : Nat)) ∧ W.cell? ⟨b, 3, none⟩ = some (.int .u32 (p.te : Nat)) ∧ W.cell? ⟨b, 4, none⟩ = some (.int .u32 (p.seq : Nat)) ∧ W.cell? ⟨b, 5, none⟩ = some (.int .u32 (p.met : Nat)) ∧ W.cell? ⟨b, 6, none⟩ = some (.int .i64 p.msg.kind) ∧ W.cell? ⟨b, 7, none⟩ = some (.int .i64 p.msg.cell) ∧ W.cell? ⟨b, 8, none⟩ = some (.int .u32 (p.msg.gen : Nat)) ∧ W.cell? ⟨b, 9, none⟩ = some (.int .u64 (p.msg.stamp : Nat)) ∧ W.cell? ⟨b, 10, none⟩ = some (.int .i64 p.msg.prio) ∧ W.cell? ⟨b, 11, none⟩ = some (.int .i64 p.msg.hops) ∧ W.cell? ⟨b, 12, none⟩ = some (.int .i64 p.msg.origin) ∧ W.cell? ⟨b, 13, none⟩ = some (.int .i64 p.msg.other) ∧ W.cell? ⟨b, 14, none⟩ = some (.slice A n cap) := by
  refine ⟨?_, ?_, ?_, ?_, ?_, ?_, ?_, ?_, ?_, ?_, ?_, ?_, ?_, ?_, ?_⟩ <;> (rw [blk_cell h]; rfl)

end Go.Proofs.YtmfbokaaoffdnaaDoor
