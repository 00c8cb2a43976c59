/-
 The draws of the stream: what each of them can give. The draws of the stream: one of some numbers, one of some strings, a number of a range. What a name is: wbref1.Name and nest.isName say the same of every string. What a name is: wbref1.Name and nest.isName say the same of every string.
-/
import Derived.Test.YtgeklmigfhhpfaaGreatDoorProg
import Derived.WalkKit
import Derived.BigQuiet
import Derived.Deep.QuietTactic
import Derived.RowKitTokens
import Derived.OneCell
import Derived.WalkLawsBesides
import Derived.Lib.Hide
namespace Go.Proofs.YtgeklmigfhhpfaaGreatDoor
open Go.RowKit
theorem gA (w : World) (o : Obj) (r : Option Nat) : w.grownBy (w.alloc o) r := World.grownBy_alloc w o r
theorem uH {p : Prop} (h : p) : Go.RowKit.Hid p := Lib.hid h
def GivesBelow (n : Int) (w : World) (e : Ending) (w' : World) : Prop := ∃ k : Int, 0 ≤ k ∧ k < n ∧ e = .returned (.int .i64 k) ∧ w = w'
set_option maxHeartbeats 400000 in
theorem below_any (x n : Int) (w : World) (hn : 1 ≤ n) (hn' : n ≤ 4611686018427387904) :
  Calls Tryz.prog 81 #[.int .i64 x, .int .i64 n] w (GivesBelow n w) := by
 have h1 := Int.tmod_lt_of_pos x (show 0 < n by omega)
 have h2 := Int.lt_tmod_of_pos x (show 0 < n by omega)
 go_enter Tryz.func81, Tryz.ntmps81
 go_wp2
 all_goals (go_ret; exact ⟨_, by omega, by omega, rfl, rfl⟩)
def ListAt (w : World) (B : Nat) (L : Value) : Prop :=
 L = .slice none 0 0 ∨ ∃ b off len cap, L = .slice (some ⟨b, off, none⟩) len cap ∧ b < B ∧ len ≤ maxLen ∧
   ∀ j, j < len → ∃ z : Int, -9223372036854775808 ≤ z ∧ z ≤ 9223372036854775807 ∧ w.cell? ⟨b, off + j, none⟩ = some (.int .i64 z)
def StreamAt (w : World) (B m : Nat) : Prop :=
 ∃ (L : Value) (a : Nat), a ≤ m ∧ w.heap[B]? = some (.cells #[L, .int .i64 a] 25 (0, 0)) ∧ ListAt w B L
def Drawn (B m : Nat) (w w' : World) : Prop := w.grownBy w' (some B) ∧ StreamAt w' B m
def NextBelow (B m : Nat) (n : Int) (w : World) (e : Ending) (w' : World) : Prop := ∃ k : Int, 0 ≤ k ∧ k < n ∧ e = .returned (.int .i64 k) ∧ Drawn B m w w'
set_option maxHeartbeats 400000 in
theorem next_nil (B : Nat) (a : Nat) (n : Int) (w : World) (ha : a ≤ 1099511627776) (hn : 1 ≤ n) (hn' : n ≤ 4611686018427387904)
  (h0 : w.cell? ⟨B, 0, none⟩ = some (.slice none 0 0)) (h1 : w.cell? ⟨B, 1, none⟩ = some (.int .i64 a)) (hf : w.frozen? ⟨B, 1, none⟩ = false) :
  Calls Tryz.prog 31 #[.pointer (some ⟨B, 0, none⟩), .int .i64 n] w (GivesBelow n (w.setCell ⟨B, 1, none⟩ (.int .i64 (a + 1)))) := by
 go_enter Tryz.func31, Tryz.ntmps31
 go_wp2_with (go_at_call 81; refine (below_any _ n _ hn hn').mono ?_; rintro e w' ⟨k, hk1, hk2, rfl, rfl⟩)
 go_ret
 exact ⟨k, hk1, hk2, rfl, rfl⟩
set_option maxHeartbeats 400000 in
theorem next_empty (B b off cap : Nat) (a : Nat) (n : Int) (w : World) (ha : a ≤ 1099511627776) (hn : 1 ≤ n) (hn' : n ≤ 4611686018427387904)
  (h0 : w.cell? ⟨B, 0, none⟩ = some (.slice (some ⟨b, off, none⟩) 0 cap)) (h1 : w.cell? ⟨B, 1, none⟩ = some (.int .i64 a)) (hf : w.frozen? ⟨B, 1, none⟩ = false) :
  Calls Tryz.prog 31 #[.pointer (some ⟨B, 0, none⟩), .int .i64 n] w (GivesBelow n (w.setCell ⟨B, 1, none⟩ (.int .i64 (a + 1)))) := by
 go_enter Tryz.func31, Tryz.ntmps31
 go_wp2_with (go_at_call 81; refine (below_any _ n _ hn hn').mono ?_; rintro e w' ⟨k, hk1, hk2, rfl, rfl⟩)
 go_ret
 exact ⟨k, hk1, hk2, rfl, rfl⟩
set_option maxHeartbeats 400000 in
theorem next_some (B b off len cap : Nat) (a : Nat) (n : Int) (w : World) (ha : a ≤ 1099511627776) (hn : 1 ≤ n) (hn' : n ≤ 4611686018427387904)
  (hb : b ≠ B) (hl : 1 ≤ len) (hl' : len ≤ 9223372036854775807)
  (h0 : w.cell? ⟨B, 0, none⟩ = some (.slice (some ⟨b, off, none⟩) len cap)) (h1 : w.cell? ⟨B, 1, none⟩ = some (.int .i64 a)) (hf : w.frozen? ⟨B, 1, none⟩ = false)
  (z : Int) (hz : w.cell? ⟨b, off + a % len, none⟩ = some (.int .i64 z)) :
  Calls Tryz.prog 31 #[.pointer (some ⟨B, 0, none⟩), .int .i64 n] w fun e w' => ∃ q, GivesBelow n ((w.setCell ⟨B, 1, none⟩ (.int .i64 (a + 1))).drewN q) e w' := by
 have hne : (len : Int) ≠ 0 := by omega
 have hi1 : 0 ≤ (a : Int) % (len : Int) := Int.emod_nonneg _ hne
 have hi2 : (a : Int) % (len : Int) < len := Int.emod_lt_of_pos _ (by omega)
 have hi3 : ((a : Int) % (len : Int)).toNat = a % len := by omega
 go_enter Tryz.func31, Tryz.ntmps31
 go_wp2
 go_quiet (fail)
 go_wp2
 go_quiet (fail)
 go_wp2_with fail
 refine (below_any _ _ _ (by omega) (by omega)).mono ?_
 rintro e w' ⟨k, hk1, hk2, rfl, rfl⟩
 go_wp2_with fail
 refine (below_any _ n _ hn hn').mono ?_
 rintro e w' ⟨k, hk1, hk2, rfl, rfl⟩
 go_wp2_with fail
 go_ret
 exact ⟨_, k, hk1, hk2, rfl, rfl⟩
theorem gR (w : World) (r : Option Nat) : w.grownBy w r := ⟨rfl, rfl, rfl, Nat.le_refl _, fun _ _ _ => rfl⟩
theorem grownBy_drewN (w : World) (q : Nat) (r : Option Nat) : w.grownBy (w.drewN q) r := ⟨rfl, rfl, rfl, Nat.le_refl _, fun _ _ _ => rfl⟩
theorem ListAt.kept {w w' : World} {B : Nat} {L : Value} (h : ListAt w B L) (hg : w.grownBy w' (some B)) : ListAt w' B L := by
 rcases h with h | ⟨b, off, len, cap, h, hb, hl, hc⟩
 · exact .inl h
 · refine .inr ⟨b, off, len, cap, h, hb, hl, fun j hj => ?_⟩
   obtain ⟨z, h1, h2, h3⟩ := hc j hj
   exact ⟨z, h1, h2, hg.cell h3 (by simp; omega)⟩
theorem StreamAt.step {w : World} {B a : Nat} {L : Value} (h : w.heap[B]? = some (.cells #[L, .int .i64 a] 25 (0, 0))) (hL : ListAt w B L) (q : Nat) :
  Drawn B (a + 1) w ((w.setCell ⟨B, 1, none⟩ (.int .i64 (a + 1))).drewN q) := by
 have hg : w.grownBy ((w.setCell ⟨B, 1, none⟩ (.int .i64 (a + 1))).drewN q) (some B) :=
  ⟨rfl, rfl, rfl, by simp [World.setCell], fun k _ hk => Below.heap_setCell w ⟨B, 1, none⟩ _ k (by simpa using hk)⟩
 refine ⟨hg, L, a + 1, Nat.le_refl _, ?_, hL.kept hg⟩
 show (w.heap.modify B _)[B]? = _
 rw [Array.getElem?_modify, if_pos rfl, h]
 simp
theorem Drawn.more {B m m' : Nat} {w w' : World} (h : Drawn B m w w') (hm : m ≤ m') : Drawn B m' w w' := by
 obtain ⟨hg, L, a, ha, hr⟩ := h
 exact ⟨hg, L, a, Nat.le_trans ha hm, hr⟩
theorem next_any (B m : Nat) (n : Int) (w : World) (hs : StreamAt w B m) (hm : m ≤ 1099511627776) (hn : 1 ≤ n) (hn' : n ≤ 4611686018427387904) :
  Calls Tryz.prog 31 #[.pointer (some ⟨B, 0, none⟩), .int .i64 n] w (NextBelow B (m + 1) n w) := by
 obtain ⟨L, a, ha, hB, hL⟩ := hs
 have h0 : w.cell? ⟨B, 0, none⟩ = some L := by simp [World.cell?, hB]
 have h1 : w.cell? ⟨B, 1, none⟩ = some (.int .i64 a) := by simp [World.cell?, hB]
 have hf : w.frozen? ⟨B, 1, none⟩ = false := by simp [World.frozen?, hB]
 rcases id hL with rfl | ⟨b, off, len, cap, rfl, hb, hl, hc⟩
 · refine (next_nil B a n w (by omega) hn hn' h0 h1 hf).mono ?_
   rintro e w' ⟨k, hk1, hk2, rfl, rfl⟩
   exact ⟨k, hk1, hk2, rfl, (StreamAt.step hB hL 0).more (by omega)⟩
 · by_cases hz : len = 0
   · subst hz
     refine (next_empty B b off cap a n w (by omega) hn hn' h0 h1 hf).mono ?_
     rintro e w' ⟨k, hk1, hk2, rfl, rfl⟩
     exact ⟨k, hk1, hk2, rfl, (StreamAt.step hB hL 0).more (by omega)⟩
   · obtain ⟨z, _, _, hz3⟩ := hc (a % len) (Nat.mod_lt _ (by omega))
     refine (next_some B b off len cap a n w (by omega) hn hn' (by omega) (by omega) hl h0 h1 hf z hz3).mono ?_
     rintro e w' ⟨q, k, hk1, hk2, rfl, rfl⟩
     exact ⟨k, hk1, hk2, rfl, (StreamAt.step hB hL q).more (by omega)⟩
end Go.Proofs.YtgeklmigfhhpfaaGreatDoor
namespace Go.Proofs.YtgeklmigfhhpfaaGreatDoor
open Go.RowKit
theorem gT {a b c : World} {r : Option Nat} (h : a.grownBy b r) (k : b.grownBy c r) : a.grownBy c r :=
 ⟨k.os.trans h.os, k.tape.trans h.tape, k.output.trans h.output, Nat.le_trans h.size k.size,
   fun i hi hr => (k.block i (Nat.lt_of_lt_of_le hi h.size) hr).trans (h.block i hi hr)⟩
theorem Drawn.trans {B m m' : Nat} {a b c : World} (h : Drawn B m a b) (k : Drawn B m' b c) : Drawn B m' a c := ⟨gT h.1 k.1, k.2⟩
theorem StreamAt.kept {w w' : World} {B m : Nat} (h : StreamAt w B m) (hg : w.grownBy w' none) : StreamAt w' B m := by
 obtain ⟨L, a, ha, hB, hL⟩ := h
 have hlt : B < w.heap.size := (Array.getElem?_eq_some_iff.1 hB).1
 refine ⟨L, a, ha, (hg.block B hlt (by simp)).trans hB, ?_⟩
 rcases hL with h | ⟨b, off, len, cap, h, hb, hl, hc⟩
 · exact .inl h
 · refine .inr ⟨b, off, len, cap, h, hb, hl, fun j hj => ?_⟩
   obtain ⟨z, h1, h2, h3⟩ := hc j hj
   exact ⟨z, h1, h2, hg.cell h3 (by simp)⟩
theorem StreamAt.keptOwn {w w' : World} {B m : Nat} {r : Option Nat} (h : StreamAt w B m) (hg : w.grownBy w' r) (hr : ∀ i, r = some i → B < i) : StreamAt w' B m := by
 obtain ⟨L, a, ha, hB, hL⟩ := h
 have hlt : B < w.heap.size := (Array.getElem?_eq_some_iff.1 hB).1
 refine ⟨L, a, ha, (hg.block B hlt (fun e => by have := hr B e.symm; omega)).trans hB, ?_⟩
 rcases hL with h | ⟨b, off, len, cap, h, hb, hl, hc⟩
 · exact .inl h
 · refine .inr ⟨b, off, len, cap, h, hb, hl, fun j hj => ?_⟩
   obtain ⟨z, h1, h2, h3⟩ := hc j hj
   exact ⟨z, h1, h2, hg.cell h3 (fun e => by have := hr b e.symm; omega)⟩
theorem Drawn.own {B m : Nat} {a b c : World} {r : Option Nat} (h : Drawn B m a b) (k : b.grownBy c r) (hB : B < a.heap.size) (hr : ∀ i, r = some i → a.heap.size ≤ i) : Drawn B m a c :=
 ⟨⟨k.os.trans h.1.os, k.tape.trans h.1.tape, k.output.trans h.1.output, Nat.le_trans h.1.size k.size,
   fun i hi hne => (k.block i (Nat.lt_of_lt_of_le hi h.1.size) (fun e => by have := hr i e.symm; omega)).trans (h.1.block i hi hne)⟩,
   h.2.keptOwn k (fun i hi => by have := hr i hi; omega)⟩
theorem grownBy_any {w w' : World} (r : Option Nat) (h : w.grownBy w' none) : w.grownBy w' r :=
 ⟨h.os, h.tape, h.output, h.size, fun k hk _ => h.block k hk (by simp)⟩
def FlipAny (B m : Nat) (w : World) (e : Ending) (w' : World) : Prop := ∃ b : Bool, e = .returned (.bool b) ∧ Drawn B m w w'
set_option maxHeartbeats 400000 in
theorem flip_any (B m : Nat) (n : Int) (w : World) (hs : StreamAt w B m) (hm : m ≤ 1099511627776) (hn : 1 ≤ n) (hn' : n ≤ 4611686018427387904) :
  Calls Tryz.prog 30 #[.pointer (some ⟨B, 0, none⟩), .int .i64 n] w (FlipAny B (m + 1) w) := by
 go_enter Tryz.func30, Tryz.ntmps30
 go_wp2_with (go_at_call 31; refine (next_any B m n _ hs hm hn hn').mono ?_; rintro e w' ⟨k, hk1, hk2, rfl, hd⟩)
 go_ret
 exact ⟨_, rfl, hd⟩
def PickOf (B m : Nat) (zs : List Int) (w : World) (e : Ending) (w' : World) : Prop := ∃ z : Int, z ∈ zs ∧ e = .returned (.int .i64 z) ∧ Drawn B m w w'
set_option maxHeartbeats 400000 in
theorem pick_any (B m b cap : Nat) (zs : List Int) (w : World) (hs : StreamAt w B m) (hm : m ≤ 1099511627776) (hb : b ≠ B) (h1 : 1 ≤ zs.length) (h2 : zs.length ≤ 1000)
  (hc : ∀ j, j < zs.length → w.cell? ⟨b, j, none⟩ = some (.int .i64 (zs.getD j 0))) :
  Calls Tryz.prog 29 #[.pointer (some ⟨B, 0, none⟩), .slice (some ⟨b, 0, none⟩) zs.length cap] w (PickOf B (m + 1) zs w) := by
 go_enter Tryz.func29, Tryz.ntmps29
 go_wp2_with (go_at_call 31; refine (next_any B m _ _ hs hm (by omega) (by omega)).mono ?_; rintro e w' ⟨k, hk1, hk2, rfl, hd⟩; have hcell := hd.1.cell (hc k.toNat (by omega)) (by simpa using hb))
 go_ret
 have hlt : k.toNat < zs.length := by omega
 exact ⟨zs[k.toNat], List.getElem_mem hlt, by simp, hd⟩
def SomeOf (B m : Nat) (zs : List ByteArray) (w : World) (e : Ending) (w' : World) : Prop := ∃ z : ByteArray, z ∈ zs ∧ e = .returned (.string z) ∧ Drawn B m w w'
set_option maxHeartbeats 400000 in
theorem some_any (B m b cap : Nat) (zs : List ByteArray) (w : World) (hs : StreamAt w B m) (hm : m ≤ 1099511627776) (hb : b ≠ B) (h1 : 1 ≤ zs.length) (h2 : zs.length ≤ 1000)
  (hc : ∀ j, j < zs.length → w.cell? ⟨b, j, none⟩ = some (.string (zs.getD j ByteArray.empty))) :
  Calls Tryz.prog 6 #[.pointer (some ⟨B, 0, none⟩), .slice (some ⟨b, 0, none⟩) zs.length cap] w (SomeOf B (m + 1) zs w) := by
 go_enter Tryz.func6, Tryz.ntmps6
 go_wp2_with (go_at_call 31; refine (next_any B m _ _ hs hm (by omega) (by omega)).mono ?_; rintro e w' ⟨k, hk1, hk2, rfl, hd⟩; have hcell := hd.1.cell (hc k.toNat (by omega)) (by simpa using hb))
 go_ret
 have hlt : k.toNat < zs.length := by omega
 exact ⟨zs[k.toNat], List.getElem_mem hlt, by simp, hd⟩
def RangeOf (B m : Nat) (low high : Int) (w : World) (e : Ending) (w' : World) : Prop := ∃ z : Int, low ≤ z ∧ z ≤ high ∧ e = .returned (.int .i64 z) ∧ Drawn B m w w'
set_option maxHeartbeats 400000 in
theorem range_any (B m : Nat) (low high : Int) (w : World) (hs : StreamAt w B m) (hm : m ≤ 1099511627776) (h1 : low ≤ high) (h2 : -1000000000 ≤ low) (h3 : high ≤ 1000000000) :
  Calls Tryz.prog 82 #[.pointer (some ⟨B, 0, none⟩), .int .i64 low, .int .i64 high] w (RangeOf B (m + 1) low high w) := by
 go_enter Tryz.func82, Tryz.ntmps82
 go_wp2_with (go_at_call 31; refine (next_any B m _ _ hs hm (by omega) (by omega)).mono ?_; rintro e w' ⟨k, hk1, hk2, rfl, hd⟩)
 go_ret
 exact ⟨_, by omega, by omega, rfl, hd⟩
theorem drawn_of_alloc {B m : Nat} {w w' : World} {o : Obj} (h : Drawn B m (w.alloc o) w') : Drawn B m w w' := ⟨gT (gA w o _) h.1, h.2⟩
theorem stream_alloc {B m : Nat} {w : World} (h : StreamAt w B m) (o : Obj) : StreamAt (w.alloc o) B m := h.kept (gA w o none)
theorem StreamAt.lt {B m : Nat} {w : World} (h : StreamAt w B m) : B < w.heap.size := by
 obtain ⟨L, a, ha, hB, hL⟩ := h
 exact (Array.getElem?_eq_some_iff.1 hB).1
theorem pick_lit (B m : Nat) (zs : List Int) (T : TypeId) (w : World) (hs : StreamAt w B m) (hm : m ≤ 1099511627776) (h1 : 1 ≤ zs.length) (h2 : zs.length ≤ 1000) :
  Calls Tryz.prog 29 #[.pointer (some ⟨B, 0, none⟩), .slice (some ⟨w.heap.size, 0, none⟩) zs.length zs.length] (w.alloc (.cells (zs.map (Value.int .i64)).toArray T)) (PickOf B (m + 1) zs w) := by
 refine (pick_any B m w.heap.size zs.length zs _ (stream_alloc hs _) hm (by have := hs.lt; omega) h1 h2 fun j hj => ?_).mono ?_
 · simp [hj]
 · rintro e w' ⟨z, hz, rfl, hd⟩
   exact ⟨z, hz, rfl, drawn_of_alloc hd⟩
theorem some_lit (B m : Nat) (zs : List ByteArray) (T : TypeId) (w : World) (hs : StreamAt w B m) (hm : m ≤ 1099511627776) (h1 : 1 ≤ zs.length) (h2 : zs.length ≤ 1000) :
  Calls Tryz.prog 6 #[.pointer (some ⟨B, 0, none⟩), .slice (some ⟨w.heap.size, 0, none⟩) zs.length zs.length] (w.alloc (.cells (zs.map Value.string).toArray T)) (SomeOf B (m + 1) zs w) := by
 refine (some_any B m w.heap.size zs.length zs _ (stream_alloc hs _) hm (by have := hs.lt; omega) h1 h2 fun j hj => ?_).mono ?_
 · simp [hj]
 · rintro e w' ⟨z, hz, rfl, hd⟩
   exact ⟨z, hz, rfl, drawn_of_alloc hd⟩
def OddOf (B m : Nat) (w : World) (e : Ending) (w' : World) : Prop := ∃ z : Int, -2000000000000 ≤ z ∧ z ≤ 2000000000000 ∧ e = .returned (.int .i64 z) ∧ Drawn B m w w'
set_option maxHeartbeats 400000 in
theorem odd_any (B m : Nat) (low high : Int) (w : World) (hs : StreamAt w B m) (hm : m ≤ 1000000000000) (h1 : low ≤ high) (h2 : -100000000 ≤ low) (h3 : high ≤ 100000000) :
  Calls Tryz.prog 32 #[.pointer (some ⟨B, 0, none⟩), .int .i64 low, .int .i64 high] w (OddOf B (m + 2) w) := by
 go_enter Tryz.func32, Tryz.ntmps32
 go_wp2_with (go_at_call 30; refine (flip_any B m 12 _ hs (by omega) (by omega) (by omega)).mono ?_; rintro e w' ⟨b, rfl, hd⟩; cases b)
 · refine (range_any B (m + 1) low high w' hd.2 (by omega) h1 (by omega) (by omega)).mono ?_
   rintro e w'' ⟨z, hz1, hz2, rfl, hd'⟩
   go_wp2
   go_ret
   exact ⟨z, by omega, by omega, rfl, hd.trans hd'⟩
 · refine (pick_lit B (m + 1) [low - 1, high + 1, low, high, -1099511627776, 1099511627776] _ w' hd.2 (by omega) (by simp) (by simp)).mono ?_
   rintro e w'' ⟨z, hz, rfl, hd'⟩
   go_wp2
   go_ret
   simp at hz
   exact ⟨z, by omega, by omega, rfl, hd.trans hd'⟩
end Go.Proofs.YtgeklmigfhhpfaaGreatDoor
namespace Go.Proofs.YtgeklmigfhhpfaaGreatDoor
open Go.RowKit
def Ret (v : Value) (w : World) (e : Ending) (w' : World) : Prop := e = .returned v ∧ w = w'
def Gives (v : Value) (w : World) (e : Ending) (w' : World) : Prop := e = .returned v ∧ w.grownBy w' none
theorem ret_bool {a b : Bool} (h : a = b) : Ending.returned (.bool a) = .returned (.bool b) := by rw [h]
def inB (n low high : Int) : Bool := decide (low ≤ n ∧ n ≤ high)
set_option maxHeartbeats 400000 in
theorem in_any (n low high : Int) (w : World) :
  Calls Tryz.prog 41 #[.int .i64 n, .int .i64 low, .int .i64 high] w (Ret (.bool (inB n low high)) w) := by
 go_enter Tryz.func41, Tryz.ntmps41
 go_wp2
 all_goals
  go_ret
  exact ⟨ret_bool (by simp [inB]; try omega), rfl⟩
def containsB (zs : List ByteArray) (x : ByteArray) : Bool := zs.any fun y => x.toList == y.toList
def IndexOf (zs : List ByteArray) (x : ByteArray) (w : World) (e : Ending) (w' : World) : Prop := ∃ k : Int, decide (0 ≤ k) = containsB zs x ∧ e = .returned (.int .i64 k) ∧ w = w'
theorem containsB_of {zs : List ByteArray} {x : ByteArray} {k : Nat} (h : k < zs.length) (e : (x.toList == zs[k].toList) = true) : containsB zs x = true :=
 List.any_eq_true.2 ⟨zs[k], List.getElem_mem h, e⟩
theorem containsB_snoc (zs : List ByteArray) (x : ByteArray) (k : Nat) (h : k < zs.length) : containsB (zs.take (k + 1)) x = (containsB (zs.take k) x || x.toList == zs[k].toList) := by
 unfold containsB
 rw [List.take_succ_eq_append_getElem h, List.any_append]
 simp
def StrsAt (w : World) (v : Value) (zs : List ByteArray) : Prop :=
 ∃ p cap, v = .slice p zs.length cap ∧ zs.length ≤ maxLen ∧ ∀ j s, zs[j]? = some s → ∃ b off, p = some ⟨b, off, none⟩ ∧ w.cell? ⟨b, off + j, none⟩ = some (.string s)
theorem StrsAt.kept {w w' : World} {v : Value} {zs : List ByteArray} (h : StrsAt w v zs) (hg : w.grownBy w' none) : StrsAt w' v zs := by
 obtain ⟨p, cap, hv, hl, hc⟩ := h
 refine ⟨p, cap, hv, hl, fun j s hj => ?_⟩
 obtain ⟨b, off, hp, h⟩ := hc j s hj
 exact ⟨b, off, hp, hg.cell h (by simp)⟩
set_option maxHeartbeats 400000 in
theorem index_any (v : Value) (zs : List ByteArray) (x : ByteArray) (w : World) (hv : StrsAt w v zs) :
  Calls Tryz.prog 91 #[v, .string x] w (IndexOf zs x w) := by
 obtain ⟨p, cap, rfl, hl, hc⟩ := hv
 unfold maxLen at hl
 have HC := uH hc
 clear hc
 go_enter Tryz.func91, Tryz.ntmps91
 go_wp2
 go_loop [8] (fun i => ∃ k : Nat, k ≤ zs.length ∧ i = .int .i64 k ∧ Hid (containsB (zs.take k) x = false)) (fun i => zs.length - (intOf i).toNat)
 case atStart => exact ⟨0, Nat.zero_le _, rfl, rfl⟩
 case round =>
  obtain ⟨k, hk, rfl, H⟩ := hrel
  by_cases hlt : k < zs.length
  · obtain ⟨b, off, rfl, hcell⟩ := HC.out k _ (List.getElem?_eq_getElem hlt)
    have HS := uH (containsB_snoc zs x k hlt)
    go_wp2
    · have he : (x.toList == zs[k].toList) = true := by assumption
      go_ret
      exact ⟨k, by rw [containsB_of hlt he]; simp, rfl, rfl⟩
    · have he : (x.toList == zs[k].toList) = false := by assumption
      go_round
      case rel => exact ⟨k + 1, by omega, by go_num, by show _ = _; rw [HS.out, H.out, he]; rfl⟩
      case measure => simp [intOf]; omega
  · go_wp2
    go_ret
    exact ⟨-1, by rw [show zs.take k = zs from List.take_of_length_le (by omega)] at H; rw [H.out]; rfl, rfl, rfl⟩
set_option maxHeartbeats 400000 in
theorem contains_any (v : Value) (zs : List ByteArray) (x : ByteArray) (w : World) (hv : StrsAt w v zs) :
  Calls Tryz.prog 40 #[v, .string x] w (Ret (.bool (containsB zs x)) w) := by
 have H := uH hv
 clear hv
 go_enter Tryz.func40, Tryz.ntmps40
 go_wp2_with (go_at_call 91; refine (index_any v zs x _ H.out).mono ?_; rintro e w' ⟨k, hk, rfl, rfl⟩; have HK := uH hk; clear hk)
 go_ret
 exact ⟨ret_bool HK.out, rfl⟩
def resL : List ByteArray := [⟨#[97, 114, 114, 97, 121]⟩, ⟨#[102, 111, 114]⟩, ⟨#[105, 102]⟩, ⟨#[109, 97, 120]⟩, ⟨#[109, 105, 110]⟩]
theorem resB_eq (s : ByteArray) : containsB resL s = (s.toList == [97, 114, 114, 97, 121] || (s.toList == [102, 111, 114] || (s.toList == [105, 102] || (s.toList == [109, 97, 120] || s.toList == [109, 105, 110])))) := by
 simp only [containsB, resL, List.any_cons, List.any_nil, Bool.or_false, ByteArray.toList_eq]
set_option maxHeartbeats 400000 in
theorem isReserved_any (s : ByteArray) (w : World) :
  Calls Tryz.prog 165 #[.string s] w (Ret (.bool (containsB resL s)) w) := by
 have H := uH (resB_eq s)
 go_enter Tryz.func165, Tryz.ntmps165
 go_wp2
 all_goals try (exfalso; simp_all; done)
 all_goals
  go_ret
  exact ⟨ret_bool (by rw [H.out]; simp [*]), rfl⟩
def letterB (c : Int) : Bool := decide (97 ≤ c ∧ c ≤ 122)
def digitB (c : Int) : Bool := decide (48 ≤ c ∧ c ≤ 57)
def nameCharB (c : Int) : Bool := letterB c || digitB c || c == 95
set_option maxHeartbeats 400000 in
theorem isLetter_any (n : Int) (w : World) : Calls Tryz.prog 179 #[.int .u8 n] w (Ret (.bool (letterB n)) w) := by
 go_enter Tryz.func179, Tryz.ntmps179
 go_wp2
 all_goals
  go_ret
  exact ⟨ret_bool (by simp [letterB]; try omega), rfl⟩
set_option maxHeartbeats 400000 in
theorem isDigit_any (n : Int) (w : World) : Calls Tryz.prog 180 #[.int .u8 n] w (Ret (.bool (digitB n)) w) := by
 go_enter Tryz.func180, Tryz.ntmps180
 go_wp2
 all_goals
  go_ret
  exact ⟨ret_bool (by simp [digitB]; try omega), rfl⟩
end Go.Proofs.YtgeklmigfhhpfaaGreatDoor
namespace Go.Proofs.YtgeklmigfhhpfaaGreatDoor
open Go.RowKit
def okAt (s : ByteArray) (k : Nat) : Bool := if h : k < s.size then letterB s[k].toNat || (decide (0 < k) && (digitB s[k].toNat || (s[k].toNat : Int) == 95)) else false
def allOk (s : ByteArray) (k : Nat) : Bool := (List.range k).all (okAt s)
def nameB (s : ByteArray) : Bool := decide (1 ≤ s.size ∧ s.size ≤ 40) && (allOk s s.size && !containsB resL s)
theorem allOk_succ (s : ByteArray) (k : Nat) : allOk s (k + 1) = (allOk s k && okAt s k) := by simp [allOk, List.range_succ]
theorem allOk_stop {s : ByteArray} {k : Nat} (hk : k < s.size) (h : okAt s k = false) : allOk s s.size = false := by
 rw [Bool.eq_false_iff]
 intro ha
 have := (List.all_eq_true.1 ha) k (by simp [hk])
 rw [h] at this
 exact absurd this (by simp)
def NameLen (s : ByteArray) (w : World) (e : Ending) (w' : World) : Prop := ∃ k : Nat, k ≤ s.size ∧ decide (k = s.size) = allOk s s.size ∧ e = .returned (.int .i64 k) ∧ w = w'
set_option maxHeartbeats 1000000 in
theorem nameLength_any (s : ByteArray) (w : World) (hs : s.size ≤ maxLen) :
  Calls Tryz.prog 164 #[.string s] w (NameLen s w) := by
 unfold maxLen at hs
 go_enter Tryz.func164, Tryz.ntmps164
 go_wp2
 go_loop [3] (fun i => ∃ k : Nat, k ≤ s.size ∧ i = .int .i64 k ∧ Hid (allOk s k = true)) (fun i => s.size - (intOf i).toNat)
 case atStart => exact ⟨0, Nat.zero_le _, rfl, rfl⟩
 case round =>
  obtain ⟨k, hk, rfl, H⟩ := hrel
  by_cases hlt : k < s.size
  · go_wp2_with (first | (go_at_call 179; refine (isLetter_any _ _).mono ?_; rintro e w' ⟨rfl, rfl⟩) | (go_at_call 180; refine (isDigit_any _ _).mono ?_; rintro e w' ⟨rfl, rfl⟩))
    iterate 3
     · have hok : okAt s k = true := by simp_all [okAt]
       go_round
       case rel => exact ⟨k + 1, by omega, by go_num, by show _ = _; rw [allOk_succ, H.out, hok]; rfl⟩
       case measure => simp [intOf]; omega
    all_goals
     have hok : okAt s k = false := by simp_all [okAt]
     go_ret
     exact ⟨k, hk, by rw [allOk_stop hlt hok]; simp; omega, rfl, rfl⟩
  · obtain rfl : s.size = k := by omega
    go_wp2
    go_ret
    exact ⟨s.size, by omega, by rw [H.out]; simp, rfl, rfl⟩
def ncAt (s : ByteArray) (k : Nat) : Bool := if h : k < s.size then nameCharB s[k].toNat else false
theorem okAt_of_nc {s : ByteArray} {k : Nat} (h0 : okAt s 0 = true) (h : ncAt s k = true) : okAt s k = true := by
 by_cases hk : k = 0
 · rw [hk]; exact h0
 · by_cases hlt : k < s.size
   · simp [ncAt, nameCharB, hlt] at h
     simp [okAt, hlt]
     have : 0 < k := by omega
     simp [this]
     rcases h with (h | h) | h <;> simp [h]
   · simp [ncAt, hlt] at h
theorem okAt_of_not_nc {s : ByteArray} {k : Nat} (h : ncAt s k = false) : okAt s k = false := by
 by_cases hlt : k < s.size
 · simp [ncAt, nameCharB, hlt] at h
   simp [okAt, hlt, h]
 · simp [okAt, hlt]
theorem okAt_zero {s : ByteArray} (h : 0 < s.size) (h1 : 97 ≤ (s[0].toNat : Int)) (h2 : (s[0].toNat : Int) ≤ 122) : okAt s 0 = true := by
 simp [okAt, letterB, h]; omega
theorem okAt_zero_not {s : ByteArray} (h : 0 < s.size) (h1 : (s[0].toNat : Int) < 97 ∨ 122 < (s[0].toNat : Int)) : okAt s 0 = false := by
 simp [okAt, letterB, h]; omega
theorem ncAt_eq {s : ByteArray} {k : Nat} (h : k < s.size) : ncAt s k = nameCharB s[k].toNat := by simp [ncAt, h]
theorem nameB_res {s : ByteArray} (h0 : 1 ≤ s.size) (h1 : s.size ≤ 40) (ha : allOk s s.size = true) : nameB s = !containsB resL s := by simp [nameB, h0, h1, ha]
theorem nameB_bad {s : ByteArray} (ha : allOk s s.size = false) : nameB s = false := by simp [nameB, ha]
theorem nameB_size {s : ByteArray} (h : ¬ (1 ≤ s.size ∧ s.size ≤ 40)) : nameB s = false := by simp [nameB, h]
set_option maxHeartbeats 1000000 in
theorem isName_any (s : ByteArray) (w : World) (hs : s.size ≤ maxLen) :
  Calls Tryz.prog 140 #[.string s] w (Ret (.bool (nameB s)) w) := by
 have hs' := hs
 unfold maxLen at hs'
 go_enter Tryz.func140, Tryz.ntmps140
 go_wp2_with (first | (go_at_call 164; refine (nameLength_any _ _ hs).mono ?_; rintro e w' ⟨k, hk, hd, rfl, rfl⟩; have HD := uH hd; clear hd) | (go_at_call 165; refine (isReserved_any _ _).mono ?_; rintro e w' ⟨rfl, rfl⟩))
 · have hk' : k = s.size := by omega
   have ha : allOk s s.size = true := by rw [← HD.out]; simp [hk']
   go_ret
   exact ⟨ret_bool (nameB_res (by omega) (by omega) ha).symm, rfl⟩
 · have hk' : ¬ k = s.size := by omega
   have ha : allOk s s.size = false := by rw [← HD.out]; simp [hk']
   go_ret
   exact ⟨ret_bool (nameB_bad ha).symm, rfl⟩
 all_goals
  go_ret
  exact ⟨ret_bool (nameB_size (by omega)).symm, rfl⟩
theorem contains_lit (zs : List ByteArray) (x : ByteArray) (T : TypeId) (w : World) (hl : zs.length ≤ maxLen) :
  Calls Tryz.prog 40 #[.slice (some ⟨w.heap.size, 0, none⟩) zs.length zs.length, .string x] (w.alloc (.cells (zs.map Value.string).toArray T))
   (Ret (.bool (containsB zs x)) (w.alloc (.cells (zs.map Value.string).toArray T))) :=
 contains_any _ zs x _ ⟨_, _, rfl, hl, fun j s hj => ⟨_, 0, rfl, by
  obtain ⟨h, rfl⟩ := List.getElem?_eq_some_iff.1 hj
  simp [h]⟩⟩
set_option maxHeartbeats 1000000 in
theorem name_any (s : ByteArray) (w : World) (hs : s.size ≤ maxLen) :
  Calls Tryz.prog 39 #[.string s] w (Gives (.bool (nameB s)) w) := by
 have hs' := hs
 unfold maxLen at hs'
 by_cases hb : 1 ≤ s.size ∧ s.size ≤ 40
 · obtain ⟨hb1, hb2⟩ := hb
   have hin : inB s.size 1 40 = true := by simp [inB]; omega
   go_enter Tryz.func39, Tryz.ntmps39
   go_wp2_with (first | (go_at_call 41; refine (in_any _ _ _ _).mono ?_; rintro e w' ⟨rfl, rfl⟩) | (go_at_call 40; refine (contains_lit resL _ _ _ (by decide)).mono ?_; rintro e w' ⟨rfl, rfl⟩))
   · go_ret
     exact ⟨ret_bool (by simp_all [nameB]), gA _ _ _⟩
   · have h0 : okAt s 0 = false := okAt_zero_not hb1 (by omega)
     go_ret
     exact ⟨ret_bool (nameB_bad (allOk_stop hb1 h0)).symm, gA _ _ _⟩
   · have h0 : Hid (okAt s 0 = true) := okAt_zero hb1 (by omega) (by omega)
     have hres : Hid (containsB resL s = false) := by show _ = _; simpa using ‹¬ containsB resL s = true›
     go_loop [26] (fun i => ∃ k : Nat, k ≤ s.size ∧ i = .int .i64 k ∧ Hid (allOk s k = true)) (fun i => s.size - (intOf i).toNat)
     case atStart => exact ⟨0, Nat.zero_le _, rfl, rfl⟩
     case round =>
      obtain ⟨k, hk, rfl, H⟩ := hrel
      by_cases hlt : k < s.size
      · have hnc := uH (ncAt_eq hlt)
        cases hb : nameCharB s[k].toNat
        · have hok := uH (okAt_of_not_nc (hnc.out.trans hb))
          simp [nameCharB, letterB, digitB] at hb
          obtain ⟨⟨q1, q2⟩, q3⟩ := hb
          have q4 : ((s[k].toNat : Int) == 95) = false := by simpa using q3
          go_wp2
          all_goals first
           | (go_ret; exact ⟨ret_bool (nameB_bad (allOk_stop hlt hok.out)).symm, gA _ _ _⟩)
           | (exfalso; simp at *; omega)
        · have hok := uH (okAt_of_nc h0.out (hnc.out.trans hb))
          simp [nameCharB, letterB, digitB] at hb
          go_wp2
          all_goals first
           | (exfalso; simp at *; omega)
           | (go_round
              case rel => exact ⟨k + 1, by omega, by go_num, by show _ = _; rw [allOk_succ, H.out, hok.out]; rfl⟩
              case measure => simp [intOf]; omega)
      · obtain rfl : s.size = k := by omega
        go_wp2
        go_ret
        exact ⟨ret_bool (by rw [nameB_res hb1 hb2 H.out, hres.out]; rfl), gA _ _ _⟩
   · have h0 : okAt s 0 = false := okAt_zero_not hb1 (by omega)
     go_ret
     exact ⟨ret_bool (nameB_bad (allOk_stop hb1 h0)).symm, gA _ _ _⟩
 · have hin : inB s.size 1 40 = false := by simp [inB]; omega
   go_enter Tryz.func39, Tryz.ntmps39
   go_wp2_with (first | (go_at_call 41; refine (in_any _ _ _ _).mono ?_; rintro e w' ⟨rfl, rfl⟩))
   go_ret
   exact ⟨ret_bool (nameB_size hb).symm, gR _ _⟩
end Go.Proofs.YtgeklmigfhhpfaaGreatDoor
