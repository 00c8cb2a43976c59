/-
 The draws of the stream: what each of them can give. The draws of the stream: one of some numbers, one of some strings, a number of a range.
-/
import Derived.Test.YtblpknkgjkbacaaGreatDoorProg
import Derived.WalkKit
import Derived.BigQuiet
import Derived.Deep.QuietTactic
import Derived.RowKitTokens
import Derived.OneCell
namespace Go.Proofs.YtblpknkgjkbacaaGreatDoor
set_option linter.unusedVariables false
open Go.RowKit
def GivesBelow (n : Int) (w : World) (e : Ending) (w' : World) : Prop := ∃ k : Int, 0 ≤ k ∧ k < n ∧ e = .returned (.int .i64 k) ∧ w = w'
set_option maxHeartbeats 400000 in
theorem below_any (x n : Int) (w : World) (hn : 1 ≤ n) (hn' : n ≤ 4611686018427387904) :
    Calls Tryz.prog 52 #[.int .i64 x, .int .i64 n] w (GivesBelow n w) := by
  have h1 := Int.tmod_lt_of_pos x (show 0 < n by omega)
  have h2 := Int.lt_tmod_of_pos x (show 0 < n by omega)
  go_enter Tryz.func52, Tryz.ntmps52
  go_wp2
  all_goals (go_ret; exact ⟨_, by omega, by omega, rfl, rfl⟩)
/-- The list behind a stream that lies in block B: nothing, or cells of ints elsewhere. -/
def ListAt (w : World) (B : Nat) (L : Value) : Prop :=
  L = .slice none 0 0 ∨ ∃ b off len cap, L = .slice (some ⟨b, off, none⟩) len cap ∧ b < B ∧ len ≤ maxLen ∧
    ∀ j, j < len → ∃ z : Int, -9223372036854775808 ≤ z ∧ z ≤ 9223372036854775807 ∧ w.cell? ⟨b, off + j, none⟩ = some (.int .i64 z)
/-- A stream lies in block B; it has handed out at most m numbers. -/
def StreamAt (w : World) (B m : Nat) : Prop :=
  ∃ (L : Value) (a : Nat), a ≤ m ∧ w.heap[B]? = some (.cells #[L, .int .i64 a] 25 (0, 0)) ∧ ListAt w B L
/-- A draw of the stream in block B: the rest stays. -/
def Drawn (B m : Nat) (w w' : World) : Prop := w.grownBy w' (some B) ∧ StreamAt w' B m
/-- Any number below n. -/
def NextBelow (B m : Nat) (n : Int) (w : World) (e : Ending) (w' : World) : Prop := ∃ k : Int, 0 ≤ k ∧ k < n ∧ e = .returned (.int .i64 k) ∧ Drawn B m w w'
set_option maxHeartbeats 400000 in
theorem next_nil (B : Nat) (a : Nat) (n : Int) (w : World) (ha : a ≤ 1099511627776) (hn : 1 ≤ n) (hn' : n ≤ 4611686018427387904)
    (h0 : w.cell? ⟨B, 0, none⟩ = some (.slice none 0 0)) (h1 : w.cell? ⟨B, 1, none⟩ = some (.int .i64 a)) (hf : w.frozen? ⟨B, 1, none⟩ = false) :
    Calls Tryz.prog 23 #[.pointer (some ⟨B, 0, none⟩), .int .i64 n] w (GivesBelow n (w.setCell ⟨B, 1, none⟩ (.int .i64 (a + 1)))) := by
  go_enter Tryz.func23, Tryz.ntmps23
  go_wp2_with (go_at_call 52; refine (below_any _ n _ hn hn').mono ?_; rintro e w' ⟨k, hk1, hk2, rfl, rfl⟩)
  go_ret
  exact ⟨k, hk1, hk2, rfl, rfl⟩
set_option maxHeartbeats 400000 in
theorem next_empty (B b off cap : Nat) (a : Nat) (n : Int) (w : World) (ha : a ≤ 1099511627776) (hn : 1 ≤ n) (hn' : n ≤ 4611686018427387904)
    (h0 : w.cell? ⟨B, 0, none⟩ = some (.slice (some ⟨b, off, none⟩) 0 cap)) (h1 : w.cell? ⟨B, 1, none⟩ = some (.int .i64 a)) (hf : w.frozen? ⟨B, 1, none⟩ = false) :
    Calls Tryz.prog 23 #[.pointer (some ⟨B, 0, none⟩), .int .i64 n] w (GivesBelow n (w.setCell ⟨B, 1, none⟩ (.int .i64 (a + 1)))) := by
  go_enter Tryz.func23, Tryz.ntmps23
  go_wp2_with (go_at_call 52; refine (below_any _ n _ hn hn').mono ?_; rintro e w' ⟨k, hk1, hk2, rfl, rfl⟩)
  go_ret
  exact ⟨k, hk1, hk2, rfl, rfl⟩
set_option maxHeartbeats 400000 in
theorem next_some (B b off len cap : Nat) (a : Nat) (n : Int) (w : World) (ha : a ≤ 1099511627776) (hn : 1 ≤ n) (hn' : n ≤ 4611686018427387904)
    (hb : b ≠ B) (hl : 1 ≤ len) (hl' : len ≤ 9223372036854775807)
    (h0 : w.cell? ⟨B, 0, none⟩ = some (.slice (some ⟨b, off, none⟩) len cap)) (h1 : w.cell? ⟨B, 1, none⟩ = some (.int .i64 a)) (hf : w.frozen? ⟨B, 1, none⟩ = false)
    (z : Int) (hz : w.cell? ⟨b, off + a % len, none⟩ = some (.int .i64 z)) :
    Calls Tryz.prog 23 #[.pointer (some ⟨B, 0, none⟩), .int .i64 n] w fun e w' => ∃ q, GivesBelow n ((w.setCell ⟨B, 1, none⟩ (.int .i64 (a + 1))).drewN q) e w' := by
  have hne : (len : Int) ≠ 0 := by omega
  have hi1 : 0 ≤ (a : Int) % (len : Int) := Int.emod_nonneg _ hne
  have hi2 : (a : Int) % (len : Int) < len := Int.emod_lt_of_pos _ (by omega)
  have hi3 : ((a : Int) % (len : Int)).toNat = a % len := by omega
  go_enter Tryz.func23, Tryz.ntmps23
  go_wp2
  go_quiet (fail)
  go_wp2
  go_quiet (fail)
  go_wp2_with fail
  refine (below_any _ _ _ (by omega) (by omega)).mono ?_
  rintro e w' ⟨k, hk1, hk2, rfl, rfl⟩
  go_wp2_with fail
  refine (below_any _ n _ hn hn').mono ?_
  rintro e w' ⟨k, hk1, hk2, rfl, rfl⟩
  go_wp2_with fail
  go_ret
  exact ⟨_, k, hk1, hk2, rfl, rfl⟩
theorem grownBy_refl (w : World) (r : Option Nat) : w.grownBy w r := ⟨rfl, rfl, rfl, Nat.le_refl _, fun _ _ _ => rfl⟩
theorem grownBy_drewN (w : World) (q : Nat) (r : Option Nat) : w.grownBy (w.drewN q) r := ⟨rfl, rfl, rfl, Nat.le_refl _, fun _ _ _ => rfl⟩
theorem ListAt.kept {w w' : World} {B : Nat} {L : Value} (h : ListAt w B L) (hg : w.grownBy w' (some B)) : ListAt w' B L := by
  rcases h with h | ⟨b, off, len, cap, h, hb, hl, hc⟩
  · exact .inl h
  · refine .inr ⟨b, off, len, cap, h, hb, hl, fun j hj => ?_⟩
    obtain ⟨z, h1, h2, h3⟩ := hc j hj
    exact ⟨z, h1, h2, hg.cell h3 (by simp; omega)⟩
theorem StreamAt.step {w : World} {B a : Nat} {L : Value} (h : w.heap[B]? = some (.cells #[L, .int .i64 a] 25 (0, 0))) (hL : ListAt w B L) (q : Nat) :
    Drawn B (a + 1) w ((w.setCell ⟨B, 1, none⟩ (.int .i64 (a + 1))).drewN q) := by
  have hg : w.grownBy ((w.setCell ⟨B, 1, none⟩ (.int .i64 (a + 1))).drewN q) (some B) :=
    ⟨rfl, rfl, rfl, by simp [World.setCell], fun k _ hk => Below.heap_setCell w ⟨B, 1, none⟩ _ k (by simpa using hk)⟩
  refine ⟨hg, L, a + 1, Nat.le_refl _, ?_, hL.kept hg⟩
  show (w.heap.modify B _)[B]? = _
  rw [Array.getElem?_modify, if_pos rfl, h]
  simp
theorem Drawn.more {B m m' : Nat} {w w' : World} (h : Drawn B m w w') (hm : m ≤ m') : Drawn B m' w w' := by
  obtain ⟨hg, L, a, ha, hr⟩ := h
  exact ⟨hg, L, a, Nat.le_trans ha hm, hr⟩
theorem next_any (B m : Nat) (n : Int) (w : World) (hs : StreamAt w B m) (hm : m ≤ 1099511627776) (hn : 1 ≤ n) (hn' : n ≤ 4611686018427387904) :
    Calls Tryz.prog 23 #[.pointer (some ⟨B, 0, none⟩), .int .i64 n] w (NextBelow B (m + 1) n w) := by
  obtain ⟨L, a, ha, hB, hL⟩ := hs
  have h0 : w.cell? ⟨B, 0, none⟩ = some L := by simp [World.cell?, hB]
  have h1 : w.cell? ⟨B, 1, none⟩ = some (.int .i64 a) := by simp [World.cell?, hB]
  have hf : w.frozen? ⟨B, 1, none⟩ = false := by simp [World.frozen?, hB]
  rcases id hL with rfl | ⟨b, off, len, cap, rfl, hb, hl, hc⟩
  · refine (next_nil B a n w (by omega) hn hn' h0 h1 hf).mono ?_
    rintro e w' ⟨k, hk1, hk2, rfl, rfl⟩
    exact ⟨k, hk1, hk2, rfl, (StreamAt.step hB hL 0).more (by omega)⟩
  · by_cases hz : len = 0
    · subst hz
      refine (next_empty B b off cap a n w (by omega) hn hn' h0 h1 hf).mono ?_
      rintro e w' ⟨k, hk1, hk2, rfl, rfl⟩
      exact ⟨k, hk1, hk2, rfl, (StreamAt.step hB hL 0).more (by omega)⟩
    · obtain ⟨z, _, _, hz3⟩ := hc (a % len) (Nat.mod_lt _ (by omega))
      refine (next_some B b off len cap a n w (by omega) hn hn' (by omega) (by omega) hl h0 h1 hf z hz3).mono ?_
      rintro e w' ⟨q, k, hk1, hk2, rfl, rfl⟩
      exact ⟨k, hk1, hk2, rfl, (StreamAt.step hB hL q).more (by omega)⟩
end Go.Proofs.YtblpknkgjkbacaaGreatDoor
namespace Go.Proofs.YtblpknkgjkbacaaGreatDoor
open Go.RowKit
theorem grownBy_trans {a b c : World} {r : Option Nat} (h : a.grownBy b r) (k : b.grownBy c r) : a.grownBy c r :=
  ⟨k.os.trans h.os, k.tape.trans h.tape, k.output.trans h.output, Nat.le_trans h.size k.size,
    fun i hi hr => (k.block i (Nat.lt_of_lt_of_le hi h.size) hr).trans (h.block i hi hr)⟩
theorem Drawn.trans {B m m' : Nat} {a b c : World} (h : Drawn B m a b) (k : Drawn B m' b c) : Drawn B m' a c := ⟨grownBy_trans h.1 k.1, k.2⟩
theorem StreamAt.kept {w w' : World} {B m : Nat} (h : StreamAt w B m) (hg : w.grownBy w' none) : StreamAt w' B m := by
  obtain ⟨L, a, ha, hB, hL⟩ := h
  have hlt : B < w.heap.size := (Array.getElem?_eq_some_iff.1 hB).1
  refine ⟨L, a, ha, (hg.block B hlt (by simp)).trans hB, ?_⟩
  rcases hL with h | ⟨b, off, len, cap, h, hb, hl, hc⟩
  · exact .inl h
  · refine .inr ⟨b, off, len, cap, h, hb, hl, fun j hj => ?_⟩
    obtain ⟨z, h1, h2, h3⟩ := hc j hj
    exact ⟨z, h1, h2, hg.cell h3 (by simp)⟩
/-- A write into a block behind the stream's. -/
theorem StreamAt.keptOwn {w w' : World} {B m : Nat} {r : Option Nat} (h : StreamAt w B m) (hg : w.grownBy w' r) (hr : ∀ i, r = some i → B < i) : StreamAt w' B m := by
  obtain ⟨L, a, ha, hB, hL⟩ := h
  have hlt : B < w.heap.size := (Array.getElem?_eq_some_iff.1 hB).1
  refine ⟨L, a, ha, (hg.block B hlt (fun e => by have := hr B e.symm; omega)).trans hB, ?_⟩
  rcases hL with h | ⟨b, off, len, cap, h, hb, hl, hc⟩
  · exact .inl h
  · refine .inr ⟨b, off, len, cap, h, hb, hl, fun j hj => ?_⟩
    obtain ⟨z, h1, h2, h3⟩ := hc j hj
    exact ⟨z, h1, h2, hg.cell h3 (fun e => by have := hr b e.symm; omega)⟩
/-- A draw, and then a write into a block of the call's own. -/
theorem Drawn.own {B m : Nat} {a b c : World} {r : Option Nat} (h : Drawn B m a b) (k : b.grownBy c r) (hB : B < a.heap.size) (hr : ∀ i, r = some i → a.heap.size ≤ i) : Drawn B m a c :=
  ⟨⟨k.os.trans h.1.os, k.tape.trans h.1.tape, k.output.trans h.1.output, Nat.le_trans h.1.size k.size,
    fun i hi hne => (k.block i (Nat.lt_of_lt_of_le hi h.1.size) (fun e => by have := hr i e.symm; omega)).trans (h.1.block i hi hne)⟩,
    h.2.keptOwn k (fun i hi => by have := hr i hi; omega)⟩
theorem grownBy_any {w w' : World} (r : Option Nat) (h : w.grownBy w' none) : w.grownBy w' r :=
  ⟨h.os, h.tape, h.output, h.size, fun k hk _ => h.block k hk (by simp)⟩
def FlipAny (B m : Nat) (w : World) (e : Ending) (w' : World) : Prop := ∃ b : Bool, e = .returned (.bool b) ∧ Drawn B m w w'
set_option maxHeartbeats 400000 in
theorem flip_any (B m : Nat) (n : Int) (w : World) (hs : StreamAt w B m) (hm : m ≤ 1099511627776) (hn : 1 ≤ n) (hn' : n ≤ 4611686018427387904) :
    Calls Tryz.prog 22 #[.pointer (some ⟨B, 0, none⟩), .int .i64 n] w (FlipAny B (m + 1) w) := by
  go_enter Tryz.func22, Tryz.ntmps22
  go_wp2_with (go_at_call 23; refine (next_any B m n _ hs hm hn hn').mono ?_; rintro e w' ⟨k, hk1, hk2, rfl, hd⟩)
  go_ret
  exact ⟨_, rfl, hd⟩
def PickOf (B m : Nat) (zs : List Int) (w : World) (e : Ending) (w' : World) : Prop := ∃ z : Int, z ∈ zs ∧ e = .returned (.int .i64 z) ∧ Drawn B m w w'
set_option maxHeartbeats 400000 in
theorem pick_any (B m b cap : Nat) (zs : List Int) (w : World) (hs : StreamAt w B m) (hm : m ≤ 1099511627776) (hb : b ≠ B) (h1 : 1 ≤ zs.length) (h2 : zs.length ≤ 1000)
    (hc : ∀ j, j < zs.length → w.cell? ⟨b, j, none⟩ = some (.int .i64 (zs.getD j 0))) :
    Calls Tryz.prog 6 #[.pointer (some ⟨B, 0, none⟩), .slice (some ⟨b, 0, none⟩) zs.length cap] w (PickOf B (m + 1) zs w) := by
  go_enter Tryz.func6, Tryz.ntmps6
  go_wp2_with (go_at_call 23; refine (next_any B m _ _ hs hm (by omega) (by omega)).mono ?_; rintro e w' ⟨k, hk1, hk2, rfl, hd⟩; have hcell := hd.1.cell (hc k.toNat (by omega)) (by simpa using hb))
  go_ret
  have hlt : k.toNat < zs.length := by omega
  exact ⟨zs[k.toNat], List.getElem_mem hlt, by simp, hd⟩
def SomeOf (B m : Nat) (zs : List ByteArray) (w : World) (e : Ending) (w' : World) : Prop := ∃ z : ByteArray, z ∈ zs ∧ e = .returned (.string z) ∧ Drawn B m w w'
set_option maxHeartbeats 400000 in
theorem some_any (B m b cap : Nat) (zs : List ByteArray) (w : World) (hs : StreamAt w B m) (hm : m ≤ 1099511627776) (hb : b ≠ B) (h1 : 1 ≤ zs.length) (h2 : zs.length ≤ 1000)
    (hc : ∀ j, j < zs.length → w.cell? ⟨b, j, none⟩ = some (.string (zs.getD j ByteArray.empty))) :
    Calls Tryz.prog 7 #[.pointer (some ⟨B, 0, none⟩), .slice (some ⟨b, 0, none⟩) zs.length cap] w (SomeOf B (m + 1) zs w) := by
  go_enter Tryz.func7, Tryz.ntmps7
  go_wp2_with (go_at_call 23; refine (next_any B m _ _ hs hm (by omega) (by omega)).mono ?_; rintro e w' ⟨k, hk1, hk2, rfl, hd⟩; have hcell := hd.1.cell (hc k.toNat (by omega)) (by simpa using hb))
  go_ret
  have hlt : k.toNat < zs.length := by omega
  exact ⟨zs[k.toNat], List.getElem_mem hlt, by simp, hd⟩
def RangeOf (B m : Nat) (low high : Int) (w : World) (e : Ending) (w' : World) : Prop := ∃ z : Int, low ≤ z ∧ z ≤ high ∧ e = .returned (.int .i64 z) ∧ Drawn B m w w'
set_option maxHeartbeats 400000 in
theorem range_any (B m : Nat) (low high : Int) (w : World) (hs : StreamAt w B m) (hm : m ≤ 1099511627776) (h1 : low ≤ high) (h2 : -1000000000 ≤ low) (h3 : high ≤ 1000000000) :
    Calls Tryz.prog 25 #[.pointer (some ⟨B, 0, none⟩), .int .i64 low, .int .i64 high] w (RangeOf B (m + 1) low high w) := by
  go_enter Tryz.func25, Tryz.ntmps25
  go_wp2_with (go_at_call 23; refine (next_any B m _ _ hs hm (by omega) (by omega)).mono ?_; rintro e w' ⟨k, hk1, hk2, rfl, hd⟩)
  go_ret
  exact ⟨_, by omega, by omega, rfl, hd⟩
theorem drawn_of_alloc {B m : Nat} {w w' : World} {o : Obj} (h : Drawn B m (w.alloc o) w') : Drawn B m w w' := ⟨grownBy_trans (World.grownBy_alloc w o _) h.1, h.2⟩
theorem stream_alloc {B m : Nat} {w : World} (h : StreamAt w B m) (o : Obj) : StreamAt (w.alloc o) B m := h.kept (World.grownBy_alloc w o none)
theorem StreamAt.lt {B m : Nat} {w : World} (h : StreamAt w B m) : B < w.heap.size := by
  obtain ⟨L, a, ha, hB, hL⟩ := h
  exact (Array.getElem?_eq_some_iff.1 hB).1
/-- One of the numbers of a block that was just made for them. -/
theorem pick_lit (B m : Nat) (zs : List Int) (T : TypeId) (w : World) (hs : StreamAt w B m) (hm : m ≤ 1099511627776) (h1 : 1 ≤ zs.length) (h2 : zs.length ≤ 1000) :
    Calls Tryz.prog 6 #[.pointer (some ⟨B, 0, none⟩), .slice (some ⟨w.heap.size, 0, none⟩) zs.length zs.length] (w.alloc (.cells (zs.map (Value.int .i64)).toArray T)) (PickOf B (m + 1) zs w) := by
  refine (pick_any B m w.heap.size zs.length zs _ (stream_alloc hs _) hm (by have := hs.lt; omega) h1 h2 fun j hj => ?_).mono ?_
  · simp [hj]
  · rintro e w' ⟨z, hz, rfl, hd⟩
    exact ⟨z, hz, rfl, drawn_of_alloc hd⟩
theorem some_lit (B m : Nat) (zs : List ByteArray) (T : TypeId) (w : World) (hs : StreamAt w B m) (hm : m ≤ 1099511627776) (h1 : 1 ≤ zs.length) (h2 : zs.length ≤ 1000) :
    Calls Tryz.prog 7 #[.pointer (some ⟨B, 0, none⟩), .slice (some ⟨w.heap.size, 0, none⟩) zs.length zs.length] (w.alloc (.cells (zs.map Value.string).toArray T)) (SomeOf B (m + 1) zs w) := by
  refine (some_any B m w.heap.size zs.length zs _ (stream_alloc hs _) hm (by have := hs.lt; omega) h1 h2 fun j hj => ?_).mono ?_
  · simp [hj]
  · rintro e w' ⟨z, hz, rfl, hd⟩
    exact ⟨z, hz, rfl, drawn_of_alloc hd⟩
end Go.Proofs.YtblpknkgjkbacaaGreatDoor
