/-
 The draws of the stream: what each of them can give.
-/
import Derived.Test.YtjgddagladmgoaaProg
import Derived.WalkKit
import Derived.BigQuiet
import Derived.Deep.QuietTactic
import Derived.RowKitTokens
import Derived.OneCell
namespace Go.Proofs.Ytjgddagladmgoaa
open Go.RowKit

def GivesBelow (n : Int) (w : World) (e : Ending) (w' : World) : Prop := ∃ k : Int, 0 ≤ k ∧ k < n ∧ e = .returned (.int .i64 k) ∧ w = w'

set_option maxHeartbeats 400000 in
theorem below_any (x n : Int) (w : World) (hn : 1 ≤ n) (hn' : n ≤ 4611686018427387904) :
    Calls Try.prog 46 #[.int .i64 x, .int .i64 n] w (GivesBelow n w) := by
  have h1 := Int.tmod_lt_of_pos x (show 0 < n by omega)
  have h2 := Int.lt_tmod_of_pos x (show 0 < n by omega)
  go_enter Try.func46, Try.ntmps46
  go_wp2
  all_goals (go_ret; exact ⟨_, by omega, by omega, rfl, rfl⟩)

/-- The list behind a stream that lies in block B: nothing, or cells of ints elsewhere. -/
def ListAt (w : World) (B : Nat) (L : Value) : Prop :=
  L = .slice none 0 0 ∨ ∃ b off len cap, L = .slice (some ⟨b, off, none⟩) len cap ∧ b < B ∧ len ≤ maxLen ∧
    ∀ j, j < len → ∃ z : Int, -9223372036854775808 ≤ z ∧ z ≤ 9223372036854775807 ∧ w.cell? ⟨b, off + j, none⟩ = some (.int .i64 z)

/-- A stream lies in block B; it has handed out at most m numbers. -/
def StreamAt (w : World) (B m : Nat) : Prop :=
  ∃ (L : Value) (a : Nat), a ≤ m ∧ w.heap[B]? = some (.cells #[L, .int .i64 a] 25 (0, 0)) ∧ ListAt w B L

/-- A draw of the stream in block B: the rest stays. -/
def Drawn (B m : Nat) (w w' : World) : Prop := w.grownBy w' (some B) ∧ StreamAt w' B m

/-- Any number below n. -/
def NextBelow (B m : Nat) (n : Int) (w : World) (e : Ending) (w' : World) : Prop := ∃ k : Int, 0 ≤ k ∧ k < n ∧ e = .returned (.int .i64 k) ∧ Drawn B m w w'

set_option maxHeartbeats 400000 in
theorem next_nil (B : Nat) (a : Nat) (n : Int) (w : World) (ha : a ≤ 1099511627776) (hn : 1 ≤ n) (hn' : n ≤ 4611686018427387904)
    (h0 : w.cell? ⟨B, 0, none⟩ = some (.slice none 0 0)) (h1 : w.cell? ⟨B, 1, none⟩ = some (.int .i64 a)) (hf : w.frozen? ⟨B, 1, none⟩ = false) :
    Calls Try.prog 22 #[.pointer (some ⟨B, 0, none⟩), .int .i64 n] w (GivesBelow n (w.setCell ⟨B, 1, none⟩ (.int .i64 (a + 1)))) := by
  go_enter Try.func22, Try.ntmps22
  go_wp2_with (go_at_call 46; refine (below_any _ n _ hn hn').mono ?_; rintro e w' ⟨k, hk1, hk2, rfl, rfl⟩)
  go_ret
  exact ⟨k, hk1, hk2, rfl, rfl⟩

set_option maxHeartbeats 400000 in
theorem next_empty (B b off cap : Nat) (a : Nat) (n : Int) (w : World) (ha : a ≤ 1099511627776) (hn : 1 ≤ n) (hn' : n ≤ 4611686018427387904)
    (h0 : w.cell? ⟨B, 0, none⟩ = some (.slice (some ⟨b, off, none⟩) 0 cap)) (h1 : w.cell? ⟨B, 1, none⟩ = some (.int .i64 a)) (hf : w.frozen? ⟨B, 1, none⟩ = false) :
    Calls Try.prog 22 #[.pointer (some ⟨B, 0, none⟩), .int .i64 n] w (GivesBelow n (w.setCell ⟨B, 1, none⟩ (.int .i64 (a + 1)))) := by
  go_enter Try.func22, Try.ntmps22
  go_wp2_with (go_at_call 46; refine (below_any _ n _ hn hn').mono ?_; rintro e w' ⟨k, hk1, hk2, rfl, rfl⟩)
  go_ret
  exact ⟨k, hk1, hk2, rfl, rfl⟩

set_option maxHeartbeats 400000 in
theorem next_some (B b off len cap : Nat) (a : Nat) (n : Int) (w : World) (ha : a ≤ 1099511627776) (hn : 1 ≤ n) (hn' : n ≤ 4611686018427387904)
    (hb : b ≠ B) (hl : 1 ≤ len) (hl' : len ≤ 9223372036854775807)
    (h0 : w.cell? ⟨B, 0, none⟩ = some (.slice (some ⟨b, off, none⟩) len cap)) (h1 : w.cell? ⟨B, 1, none⟩ = some (.int .i64 a)) (hf : w.frozen? ⟨B, 1, none⟩ = false)
    (z : Int) (hz : w.cell? ⟨b, off + a % len, none⟩ = some (.int .i64 z)) :
    Calls Try.prog 22 #[.pointer (some ⟨B, 0, none⟩), .int .i64 n] w fun e w' => ∃ q, GivesBelow n ((w.setCell ⟨B, 1, none⟩ (.int .i64 (a + 1))).drewN q) e w' := by
  have hne : (len : Int) ≠ 0 := by omega
  have hi1 : 0 ≤ (a : Int) % (len : Int) := Int.emod_nonneg _ hne
  have hi2 : (a : Int) % (len : Int) < len := Int.emod_lt_of_pos _ (by omega)
  have hi3 : ((a : Int) % (len : Int)).toNat = a % len := by omega
  go_enter Try.func22, Try.ntmps22
  go_wp2
  go_quiet (fail)
  go_wp2
  go_quiet (fail)
  go_wp2_with fail
  refine (below_any _ _ _ (by omega) (by omega)).mono ?_
  rintro e w' ⟨k, hk1, hk2, rfl, rfl⟩
  go_wp2_with fail
  refine (below_any _ n _ hn hn').mono ?_
  rintro e w' ⟨k, hk1, hk2, rfl, rfl⟩
  go_wp2_with fail
  go_ret
  exact ⟨_, k, hk1, hk2, rfl, rfl⟩

theorem grownBy_refl (w : World) (r : Option Nat) : w.grownBy w r := ⟨rfl, rfl, rfl, Nat.le_refl _, fun _ _ _ => rfl⟩
theorem grownBy_drewN (w : World) (q : Nat) (r : Option Nat) : w.grownBy (w.drewN q) r := ⟨rfl, rfl, rfl, Nat.le_refl _, fun _ _ _ => rfl⟩

theorem ListAt.kept {w w' : World} {B : Nat} {L : Value} (h : ListAt w B L) (hg : w.grownBy w' (some B)) : ListAt w' B L := by
  rcases h with h | ⟨b, off, len, cap, h, hb, hl, hc⟩
  · exact .inl h
  · refine .inr ⟨b, off, len, cap, h, hb, hl, fun j hj => ?_⟩
    obtain ⟨z, h1, h2, h3⟩ := hc j hj
    exact ⟨z, h1, h2, hg.cell h3 (by simp; omega)⟩

theorem StreamAt.step {w : World} {B a : Nat} {L : Value} (h : w.heap[B]? = some (.cells #[L, .int .i64 a] 25 (0, 0))) (hL : ListAt w B L) (q : Nat) :
    Drawn B (a + 1) w ((w.setCell ⟨B, 1, none⟩ (.int .i64 (a + 1))).drewN q) := by
  have hg : w.grownBy ((w.setCell ⟨B, 1, none⟩ (.int .i64 (a + 1))).drewN q) (some B) :=
    ⟨rfl, rfl, rfl, by simp [World.setCell], fun k _ hk => Below.heap_setCell w ⟨B, 1, none⟩ _ k (by simpa using hk)⟩
  refine ⟨hg, L, a + 1, Nat.le_refl _, ?_, hL.kept hg⟩
  show (w.heap.modify B _)[B]? = _
  rw [Array.getElem?_modify, if_pos rfl, h]
  simp

theorem Drawn.more {B m m' : Nat} {w w' : World} (h : Drawn B m w w') (hm : m ≤ m') : Drawn B m' w w' := by
  obtain ⟨hg, L, a, ha, hr⟩ := h
  exact ⟨hg, L, a, Nat.le_trans ha hm, hr⟩

theorem next_any (B m : Nat) (n : Int) (w : World) (hs : StreamAt w B m) (hm : m ≤ 1099511627776) (hn : 1 ≤ n) (hn' : n ≤ 4611686018427387904) :
    Calls Try.prog 22 #[.pointer (some ⟨B, 0, none⟩), .int .i64 n] w (NextBelow B (m + 1) n w) := by
  obtain ⟨L, a, ha, hB, hL⟩ := hs
  have h0 : w.cell? ⟨B, 0, none⟩ = some L := by simp [World.cell?, hB]
  have h1 : w.cell? ⟨B, 1, none⟩ = some (.int .i64 a) := by simp [World.cell?, hB]
  have hf : w.frozen? ⟨B, 1, none⟩ = false := by simp [World.frozen?, hB]
  rcases id hL with rfl | ⟨b, off, len, cap, rfl, hb, hl, hc⟩
  · refine (next_nil B a n w (by omega) hn hn' h0 h1 hf).mono ?_
    rintro e w' ⟨k, hk1, hk2, rfl, rfl⟩
    exact ⟨k, hk1, hk2, rfl, (StreamAt.step hB hL 0).more (by omega)⟩
  · by_cases hz : len = 0
    · subst hz
      refine (next_empty B b off cap a n w (by omega) hn hn' h0 h1 hf).mono ?_
      rintro e w' ⟨k, hk1, hk2, rfl, rfl⟩
      exact ⟨k, hk1, hk2, rfl, (StreamAt.step hB hL 0).more (by omega)⟩
    · obtain ⟨z, _, _, hz3⟩ := hc (a % len) (Nat.mod_lt _ (by omega))
      refine (next_some B b off len cap a n w (by omega) hn hn' (by omega) (by omega) hl h0 h1 hf z hz3).mono ?_
      rintro e w' ⟨q, k, hk1, hk2, rfl, rfl⟩
      exact ⟨k, hk1, hk2, rfl, (StreamAt.step hB hL q).more (by omega)⟩

end Go.Proofs.Ytjgddagladmgoaa
