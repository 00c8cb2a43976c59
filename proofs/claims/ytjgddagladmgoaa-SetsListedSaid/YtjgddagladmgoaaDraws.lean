/-
 The draws of the stream: one of some numbers, one of some strings, a number of a range.
-/
import Derived.Test.YtjgddagladmgoaaDraw
namespace Go.Proofs.Ytjgddagladmgoaa
open Go.RowKit

theorem grownBy_trans {a b c : World} {r : Option Nat} (h : a.grownBy b r) (k : b.grownBy c r) : a.grownBy c r :=
  ⟨k.os.trans h.os, k.tape.trans h.tape, k.output.trans h.output, Nat.le_trans h.size k.size,
    fun i hi hr => (k.block i (Nat.lt_of_lt_of_le hi h.size) hr).trans (h.block i hi hr)⟩

theorem Drawn.trans {B m m' : Nat} {a b c : World} (h : Drawn B m a b) (k : Drawn B m' b c) : Drawn B m' a c := ⟨grownBy_trans h.1 k.1, k.2⟩

theorem StreamAt.kept {w w' : World} {B m : Nat} (h : StreamAt w B m) (hg : w.grownBy w' none) : StreamAt w' B m := by
  obtain ⟨L, a, ha, hB, hL⟩ := h
  have hlt : B < w.heap.size := (Array.getElem?_eq_some_iff.1 hB).1
  refine ⟨L, a, ha, (hg.block B hlt (by simp)).trans hB, ?_⟩
  rcases hL with h | ⟨b, off, len, cap, h, hb, hl, hc⟩
  · exact .inl h
  · refine .inr ⟨b, off, len, cap, h, hb, hl, fun j hj => ?_⟩
    obtain ⟨z, h1, h2, h3⟩ := hc j hj
    exact ⟨z, h1, h2, hg.cell h3 (by simp)⟩

/-- A write into a block behind the stream's. -/
theorem StreamAt.keptOwn {w w' : World} {B m : Nat} {r : Option Nat} (h : StreamAt w B m) (hg : w.grownBy w' r) (hr : ∀ i, r = some i → B < i) : StreamAt w' B m := by
  obtain ⟨L, a, ha, hB, hL⟩ := h
  have hlt : B < w.heap.size := (Array.getElem?_eq_some_iff.1 hB).1
  refine ⟨L, a, ha, (hg.block B hlt (fun e => by have := hr B e.symm; omega)).trans hB, ?_⟩
  rcases hL with h | ⟨b, off, len, cap, h, hb, hl, hc⟩
  · exact .inl h
  · refine .inr ⟨b, off, len, cap, h, hb, hl, fun j hj => ?_⟩
    obtain ⟨z, h1, h2, h3⟩ := hc j hj
    exact ⟨z, h1, h2, hg.cell h3 (fun e => by have := hr b e.symm; omega)⟩

/-- A draw, and then a write into a block of the call's own. -/
theorem Drawn.own {B m : Nat} {a b c : World} {r : Option Nat} (h : Drawn B m a b) (k : b.grownBy c r) (hB : B < a.heap.size) (hr : ∀ i, r = some i → a.heap.size ≤ i) : Drawn B m a c :=
  ⟨⟨k.os.trans h.1.os, k.tape.trans h.1.tape, k.output.trans h.1.output, Nat.le_trans h.1.size k.size,
    fun i hi hne => (k.block i (Nat.lt_of_lt_of_le hi h.1.size) (fun e => by have := hr i e.symm; omega)).trans (h.1.block i hi hne)⟩,
    h.2.keptOwn k (fun i hi => by have := hr i hi; omega)⟩

theorem grownBy_any {w w' : World} (r : Option Nat) (h : w.grownBy w' none) : w.grownBy w' r :=
  ⟨h.os, h.tape, h.output, h.size, fun k hk _ => h.block k hk (by simp)⟩

def FlipAny (B m : Nat) (w : World) (e : Ending) (w' : World) : Prop := ∃ b : Bool, e = .returned (.bool b) ∧ Drawn B m w w'

set_option maxHeartbeats 400000 in
theorem flip_any (B m : Nat) (n : Int) (w : World) (hs : StreamAt w B m) (hm : m ≤ 1099511627776) (hn : 1 ≤ n) (hn' : n ≤ 4611686018427387904) :
    Calls Try.prog 21 #[.pointer (some ⟨B, 0, none⟩), .int .i64 n] w (FlipAny B (m + 1) w) := by
  go_enter Try.func21, Try.ntmps21
  go_wp2_with (go_at_call 22; refine (next_any B m n _ hs hm hn hn').mono ?_; rintro e w' ⟨k, hk1, hk2, rfl, hd⟩)
  go_ret
  exact ⟨_, rfl, hd⟩

def PickOf (B m : Nat) (zs : List Int) (w : World) (e : Ending) (w' : World) : Prop := ∃ z : Int, z ∈ zs ∧ e = .returned (.int .i64 z) ∧ Drawn B m w w'

set_option maxHeartbeats 400000 in
theorem pick_any (B m b cap : Nat) (zs : List Int) (w : World) (hs : StreamAt w B m) (hm : m ≤ 1099511627776) (hb : b ≠ B) (h1 : 1 ≤ zs.length) (h2 : zs.length ≤ 1000)
    (hc : ∀ j, j < zs.length → w.cell? ⟨b, j, none⟩ = some (.int .i64 (zs.getD j 0))) :
    Calls Try.prog 20 #[.pointer (some ⟨B, 0, none⟩), .slice (some ⟨b, 0, none⟩) zs.length cap] w (PickOf B (m + 1) zs w) := by
  go_enter Try.func20, Try.ntmps20
  go_wp2_with (go_at_call 22; refine (next_any B m _ _ hs hm (by omega) (by omega)).mono ?_; rintro e w' ⟨k, hk1, hk2, rfl, hd⟩; have hcell := hd.1.cell (hc k.toNat (by omega)) (by simpa using hb))
  go_ret
  have hlt : k.toNat < zs.length := by omega
  exact ⟨zs[k.toNat], List.getElem_mem hlt, by simp, hd⟩

def SomeOf (B m : Nat) (zs : List ByteArray) (w : World) (e : Ending) (w' : World) : Prop := ∃ z : ByteArray, z ∈ zs ∧ e = .returned (.string z) ∧ Drawn B m w w'

set_option maxHeartbeats 400000 in
theorem some_any (B m b cap : Nat) (zs : List ByteArray) (w : World) (hs : StreamAt w B m) (hm : m ≤ 1099511627776) (hb : b ≠ B) (h1 : 1 ≤ zs.length) (h2 : zs.length ≤ 1000)
    (hc : ∀ j, j < zs.length → w.cell? ⟨b, j, none⟩ = some (.string (zs.getD j ByteArray.empty))) :
    Calls Try.prog 23 #[.pointer (some ⟨B, 0, none⟩), .slice (some ⟨b, 0, none⟩) zs.length cap] w (SomeOf B (m + 1) zs w) := by
  go_enter Try.func23, Try.ntmps23
  go_wp2_with (go_at_call 22; refine (next_any B m _ _ hs hm (by omega) (by omega)).mono ?_; rintro e w' ⟨k, hk1, hk2, rfl, hd⟩; have hcell := hd.1.cell (hc k.toNat (by omega)) (by simpa using hb))
  go_ret
  have hlt : k.toNat < zs.length := by omega
  exact ⟨zs[k.toNat], List.getElem_mem hlt, by simp, hd⟩

def RangeOf (B m : Nat) (low high : Int) (w : World) (e : Ending) (w' : World) : Prop := ∃ z : Int, low ≤ z ∧ z ≤ high ∧ e = .returned (.int .i64 z) ∧ Drawn B m w w'

set_option maxHeartbeats 400000 in
theorem range_any (B m : Nat) (low high : Int) (w : World) (hs : StreamAt w B m) (hm : m ≤ 1099511627776) (h1 : low ≤ high) (h2 : -1000000000 ≤ low) (h3 : high ≤ 1000000000) :
    Calls Try.prog 47 #[.pointer (some ⟨B, 0, none⟩), .int .i64 low, .int .i64 high] w (RangeOf B (m + 1) low high w) := by
  go_enter Try.func47, Try.ntmps47
  go_wp2_with (go_at_call 22; refine (next_any B m _ _ hs hm (by omega) (by omega)).mono ?_; rintro e w' ⟨k, hk1, hk2, rfl, hd⟩)
  go_ret
  exact ⟨_, by omega, by omega, rfl, hd⟩

theorem drawn_of_alloc {B m : Nat} {w w' : World} {o : Obj} (h : Drawn B m (w.alloc o) w') : Drawn B m w w' := ⟨grownBy_trans (World.grownBy_alloc w o _) h.1, h.2⟩
theorem stream_alloc {B m : Nat} {w : World} (h : StreamAt w B m) (o : Obj) : StreamAt (w.alloc o) B m := h.kept (World.grownBy_alloc w o none)
theorem StreamAt.lt {B m : Nat} {w : World} (h : StreamAt w B m) : B < w.heap.size := by
  obtain ⟨L, a, ha, hB, hL⟩ := h
  exact (Array.getElem?_eq_some_iff.1 hB).1

/-- One of the numbers of a block that was just made for them. -/
theorem pick_lit (B m : Nat) (zs : List Int) (T : TypeId) (w : World) (hs : StreamAt w B m) (hm : m ≤ 1099511627776) (h1 : 1 ≤ zs.length) (h2 : zs.length ≤ 1000) :
    Calls Try.prog 20 #[.pointer (some ⟨B, 0, none⟩), .slice (some ⟨w.heap.size, 0, none⟩) zs.length zs.length] (w.alloc (.cells (zs.map (Value.int .i64)).toArray T)) (PickOf B (m + 1) zs w) := by
  refine (pick_any B m w.heap.size zs.length zs _ (stream_alloc hs _) hm (by have := hs.lt; omega) h1 h2 fun j hj => ?_).mono ?_
  · simp [hj]
  · rintro e w' ⟨z, hz, rfl, hd⟩
    exact ⟨z, hz, rfl, drawn_of_alloc hd⟩

theorem some_lit (B m : Nat) (zs : List ByteArray) (T : TypeId) (w : World) (hs : StreamAt w B m) (hm : m ≤ 1099511627776) (h1 : 1 ≤ zs.length) (h2 : zs.length ≤ 1000) :
    Calls Try.prog 23 #[.pointer (some ⟨B, 0, none⟩), .slice (some ⟨w.heap.size, 0, none⟩) zs.length zs.length] (w.alloc (.cells (zs.map Value.string).toArray T)) (SomeOf B (m + 1) zs w) := by
  refine (some_any B m w.heap.size zs.length zs _ (stream_alloc hs _) hm (by have := hs.lt; omega) h1 h2 fun j hj => ?_).mono ?_
  · simp [hj]
  · rintro e w' ⟨z, hz, rfl, hd⟩
    exact ⟨z, hz, rfl, drawn_of_alloc hd⟩

def OddOf (B m : Nat) (w : World) (e : Ending) (w' : World) : Prop := ∃ z : Int, -2000000000000 ≤ z ∧ z ≤ 2000000000000 ∧ e = .returned (.int .i64 z) ∧ Drawn B m w w'

set_option maxHeartbeats 400000 in
theorem odd_any (B m : Nat) (low high : Int) (w : World) (hs : StreamAt w B m) (hm : m ≤ 1000000000000) (h1 : low ≤ high) (h2 : -100000000 ≤ low) (h3 : high ≤ 100000000) :
    Calls Try.prog 24 #[.pointer (some ⟨B, 0, none⟩), .int .i64 low, .int .i64 high] w (OddOf B (m + 2) w) := by
  go_enter Try.func24, Try.ntmps24
  go_wp2_with (go_at_call 21; refine (flip_any B m 12 _ hs (by omega) (by omega) (by omega)).mono ?_; rintro e w' ⟨b, rfl, hd⟩; cases b)
  · refine (range_any B (m + 1) low high w' hd.2 (by omega) h1 (by omega) (by omega)).mono ?_
    rintro e w'' ⟨z, hz1, hz2, rfl, hd'⟩
    go_wp2
    go_ret
    exact ⟨z, by omega, by omega, rfl, hd.trans hd'⟩
  · refine (pick_lit B (m + 1) [low - 1, high + 1, low, high, -1099511627776, 1099511627776] _ w' hd.2 (by omega) (by simp) (by simp)).mono ?_
    rintro e w'' ⟨z, hz, rfl, hd'⟩
    go_wp2
    go_ret
    simp at hz
    exact ⟨z, by omega, by omega, rfl, hd.trans hd'⟩

end Go.Proofs.Ytjgddagladmgoaa
