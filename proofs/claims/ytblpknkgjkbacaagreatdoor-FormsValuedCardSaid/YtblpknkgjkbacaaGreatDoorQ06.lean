/-
 Lists that are compared. Values: numbers that a stream draws. The parts of a set while it is drawn: rows of sides, of conditions, of terms. spaceOf: a set as a space. FormOver: what is wrong with a form over a set. checkName, checkNames. The law's own faults of names. errs and when, of the law's folder. copy of elements of more than one cell. clear of elements of any number of cells. bits.Mul64 and bits.Mul. slices.Repeat of conditions. The conditions, forty times. What ASet leaves. ASet: what is drawn so far, and when all is drawn. The reader of a text: its box, and how it goes on to the next word.
-/
import Derived.Laws.ResultCell
import Derived.Laws.Rows
import Derived.Laws.CopyOwn
import Derived.Shelf.Bits.Mul64
import Derived.WalkSpells
import Derived.IntWalk
import Derived.Deep.DeepMust
import Derived.Deep.Cut
import Derived.Deep.DeepCutAuto
import Derived.Deep.RegionHeld3
import Derived.Laws.World
import Derived.Deep.CutRange
import Derived.Test.YtblpknkgjkbacaaGreatDoorQ01
import Derived.Test.YtblpknkgjkbacaaGreatDoorQ03
import Derived.Test.YtblpknkgjkbacaaGreatDoorQ04
import Derived.Test.YtblpknkgjkbacaaGreatDoorQ05
namespace Go.Proofs.YtblpknkgjkbacaaGreatDoor
set_option linter.unusedVariables false
open Go.RowKit
def small (x : Int) : Prop := -2000000000000 ≤ x ∧ x ≤ 2000000000000
end Go.Proofs.YtblpknkgjkbacaaGreatDoor
namespace Go.Proofs.YtblpknkgjkbacaaGreatDoor
open Go.RowKit
theorem flat_get {α β : Type} {f : α → List β} {k : Nat} (hf : ∀ a, (f a).length = k) : ∀ {l : List α} {j i : Nat} {a : α} {v : β}, l[j]? = some a → (f a)[i]? = some v → (l.flatMap f)[j * k + i]? = some v
  | [], j, i, a, v, h, _ => by simp at h
  | b :: r, 0, i, a, v, h, hv => by
    simp at h
    subst h
    have hi := (List.getElem?_eq_some_iff.1 hv).1
    rw [List.flatMap_cons, Nat.zero_mul, Nat.zero_add, List.getElem?_append_left hi]
    exact hv
  | b :: r, j + 1, i, a, v, h, hv => by
    have ih := flat_get hf (l := r) (j := j) (i := i) (a := a) (v := v) (by simpa using h) hv
    rw [List.flatMap_cons, List.getElem?_append_right (by rw [hf, Nat.succ_mul]; omega), hf]
    rw [show (j + 1) * k + i - k = j * k + i by rw [Nat.succ_mul]; omega]
    exact ih
theorem flat_length {α β : Type} {f : α → List β} {k : Nat} (hf : ∀ a, (f a).length = k) : ∀ (l : List α), (l.flatMap f).length = l.length * k
  | [] => by simp
  | a :: r => by rw [List.flatMap_cons, List.length_append, hf, flat_length hf r, List.length_cons, Nat.succ_mul]; omega
def termCells (t : ByteArray × Int) : List Value := [.string t.1, .int .i64 t.2]
/-- A cell of a row. -/
theorem own_cell {w : World} {base : Nat} {e : TypeId} {size : Nat} {v : Value} {n : Nat} {xs : List Value} (h : w.ownsRow base e size v n xs) {j : Nat} {u : Value} (hj : xs[j]? = some u) :
    ∃ g cap, v = .slice (some ⟨g, 0, none⟩) n cap ∧ base ≤ g ∧ w.cell? ⟨g, j, none⟩ = some u := by
  have hcells := fun g hg => World.ownsRow.cells (g := g) h hg
  rcases h.2 with ⟨rfl, hz⟩ | ⟨g, cap, cur, rfl, hb, _⟩
  · have := h.1
    rw [hz] at this
    simp at this
    rw [this] at hj
    simp at hj
  · have hadd : (⟨g, 0, none⟩ : Addr).add j = ⟨g, j, none⟩ := by unfold Addr.add; split <;> simp_all
    have := hcells g rfl j u hj
    rw [hadd] at this
    exact ⟨g, cap, rfl, hb, this⟩
/-- What a value that owns a row looks like. -/
theorem own_form {w : World} {base : Nat} {e : TypeId} {size : Nat} {v : Value} {n : Nat} {xs : List Value} (h : w.ownsRow base e size v n xs) : ∃ p cap, v = .slice p n cap := by
  rcases h.2 with ⟨rfl, hz⟩ | ⟨g, cap, cur, rfl, _⟩
  · exact ⟨none, 0, by rw [hz]⟩
  · exact ⟨_, _, rfl⟩
def goodTerm (t : ByteArray × Int) : Prop := t.1.size ≤ 100 ∧ small t.2
theorem terms_of_owns {w : World} {base : Nat} {e : TypeId} {v : Value} {l : List (ByteArray × Int)} (h : w.ownsRow base e 2 v l.length (l.flatMap termCells)) (hl : l.length ≤ 1000000) (hg : ∀ s ∈ l, goodTerm s) : TermsAt w v l := by
  obtain ⟨p, cap, hv⟩ := own_form h
  refine ⟨p, cap, hv, by unfold maxLen; omega, fun j s hj => ?_⟩
  obtain ⟨g1, g2, g3⟩ := hg s (List.mem_of_getElem? hj)
  obtain ⟨b, c1, e1, _, k1⟩ := own_cell h (flat_get (k := 2) (fun _ => rfl) hj (i := 0) (v := .string s.1) rfl)
  obtain ⟨b2, c2, e2, _, k2⟩ := own_cell h (flat_get (k := 2) (fun _ => rfl) hj (i := 1) (v := .int .i64 s.2) rfl)
  rw [hv] at e1 e2
  obtain ⟨rfl, _, _⟩ := Value.slice.inj e1
  obtain ⟨ee, _, _⟩ := Value.slice.inj e2
  cases ee
  refine ⟨b, 0, rfl, by unfold maxLen; omega, by omega, by omega, ?_, ?_⟩
  · simpa using k1
  · simpa using k2
end Go.Proofs.YtblpknkgjkbacaaGreatDoor
namespace Go.Proofs.YtblpknkgjkbacaaGreatDoor
open Go.RowKit
attribute [local go_sem ↓] Go.wp_at_zero Go.wp_at_succ
variable {w0 w w' : World} {A : Nat} {sv cv kv : Value}
theorem heap_keep {w w' : World} {r : Option Nat} {k : Nat} {o : Obj} (h : w.heap[k]? = some o) (hg : w.grownBy w' r) (hn : r ≠ some k) : w'.heap[k]? = some o := (hg.block _ (Array.getElem?_eq_some_iff.1 h).1 (fun e => hn e.symm)).trans h
end Go.Proofs.YtblpknkgjkbacaaGreatDoor
namespace Go.Proofs.YtblpknkgjkbacaaGreatDoor
open Go.RowKit
attribute [local go_sem ↓] Go.wp_at_zero Go.wp_at_succ
theorem cell_of_two {w : World} {g : Nat} {a b : Value} {T : TypeId} (h : w.heap[g]? = some (.cells #[a, b] T (0, 0))) : w.cell? ⟨g, 0, none⟩ = some a ∧ w.cell? ⟨g, 1, none⟩ = some b ∧ ∀ k, w.frozen? ⟨g, k, none⟩ = false :=
  ⟨by unfold World.cell?; rw [h]; rfl, by unfold World.cell?; rw [h]; rfl, fun k => by simp [World.frozen?, h]⟩
theorem two_set {w : World} {R : Nat} {x y : Value} {T : TypeId} (hr : w.heap[R]? = some (.cells #[x, y] T (0, 0))) (a b : Value) :
    ((w.setCell ⟨R, 0, none⟩ a).setCell ⟨R, 1, none⟩ b).heap[R]? = some (.cells #[a, b] T (0, 0)) ∧ w.grownBy ((w.setCell ⟨R, 0, none⟩ a).setCell ⟨R, 1, none⟩ b) (some R) :=
  ⟨by simp [World.setCell, Array.getElem?_modify, hr], grownBy_trans (grown_set _ _ _ _) (grown_set _ _ _ _)⟩
end Go.Proofs.YtblpknkgjkbacaaGreatDoor
namespace Go.Proofs.YtblpknkgjkbacaaGreatDoor
open Go.RowKit
attribute [local go_sem ↓] Go.wp_at_zero Go.wp_at_succ
set_option maxHeartbeats 1000000 in
theorem nameFault_any (s : ByteArray) (w : World) (hs : s.size ≤ maxLen) :
    Calls Tryz.prog 15 #[.string s] w (Gives (.int .i64 (if nameB s = true then 0 else 5)) w) := by
  cases hb : nameB s
  · have HB := Lib.hid hb
    clear hb
    go_enter Tryz.func15, Tryz.ntmps15
    go_wp2_with (go_at_call 37; refine (name_any s w hs).mono ?_; rintro e w1 ⟨rfl, hg1⟩; rw [HB.out]; have G1 := Lib.hid hg1; clear hg1)
    go_ret
    exact ⟨rfl, G1.out⟩
  · have HB := Lib.hid hb
    clear hb
    go_enter Tryz.func15, Tryz.ntmps15
    go_wp2_with (go_at_call 37; refine (name_any s w hs).mono ?_; rintro e w1 ⟨rfl, hg1⟩; rw [HB.out]; have G1 := Lib.hid hg1; clear hg1)
    go_ret
    exact ⟨rfl, G1.out⟩
end Go.Proofs.YtblpknkgjkbacaaGreatDoor
namespace Go.Proofs.YtblpknkgjkbacaaGreatDoor
open Go.RowKit
/-- A row's first cells stay, and how many cells there are. -/
def ClearPost (g o : Nat) (cur : Array Value) (T : TypeId) (w w' : World) : Prop :=
  ∃ cur' : Array Value, w'.heap[g]? = some (.cells cur' T (0, 0)) ∧ cur'.size = cur.size ∧ cur'.toList.take o = cur.toList.take o ∧ w.grownBy w' (some g)
theorem zeroCells_length (zs : Array Value) (n : Nat) : (Builtin.zeroCells zs n).toList.length = n * zs.size := by simp [Builtin.zeroCells]
theorem zeroCells_mem {zs : Array Value} {n : Nat} {v : Value} (h : v ∈ (Builtin.zeroCells zs n).toList) : v ∈ zs.toList := by
  simp [Builtin.zeroCells] at h
  obtain ⟨i, hi, rfl⟩ := h
  have h0 : 0 < zs.size := by
    rcases Nat.eq_zero_or_pos zs.size with h | h
    · rw [h] at hi; simp at hi
    · exact h
  have := Nat.mod_lt i h0
  rw [getElem!_pos zs _ this]
  exact Array.getElem_mem_toList this
theorem setRow_grown (w : World) (g : Nat) (cs : Array Value) : w.grownBy (w.setRow g cs) (some g) := by
  refine ⟨rfl, rfl, rfl, by simp [World.setRow], fun k _ hk => ?_⟩
  simp only [ne_eq, Option.some.injEq] at hk
  simp [World.setRow, Array.getElem?_modify, Ne.symm hk]
theorem run_clear_row {P : Program} (w : World) (t e ty : TypeId) (z : Value) (size : Nat) (ht : P.underlying t = some (.slice e)) (hv : ∀ w, (zeroValue e).run P w = .ok z w) (hz : z.cells.size = size) (h1 : ∀ v ∈ z.cells.toList, v.oneCell' = true)
    (g o n c : Nat) (cur : Array Value) (T : TypeId) (hg : w.heap[g]? = some (.cells cur T (0, 0))) (hfit : o + n * size ≤ cur.size) :
    ∃ w', (Builtin.clear_ #[t] ty #[.slice (some ⟨g, o, none⟩) n c]).run P w = .ok (.tuple #[]) w' ∧ ClearPost g o cur T w w' := by
  cases n with
  | zero => exact ⟨w, by simp [Builtin.clear_, run_underlying ht], cur, hg, rfl, rfl, grownBy_refl _ _⟩
  | succ n =>
    have hl := zeroCells_length z.cells (n + 1)
    rw [hz] at hl
    have hst := run_storeCells_at (P := P) g o T (Builtin.zeroCells z.cells (n + 1)).toList 0 cur w hg (by rw [hl]; simpa using hfit) (fun v hv => h1 v (zeroCells_mem hv))
    obtain ⟨W, hW⟩ : ∃ W, W = w.setRow g (List.take (o + 0) cur.toList ++ (Builtin.zeroCells z.cells (n + 1)).toList ++ List.drop (o + 0 + (Builtin.zeroCells z.cells (n + 1)).toList.length) cur.toList).toArray := ⟨_, rfl⟩
    rw [← hW] at hst
    refine ⟨W, by simp [Builtin.clear_, run_underlying ht, hv, hst], ?_⟩
    subst hW
    clear hst
    refine ⟨(List.take (o + 0) cur.toList ++ (Builtin.zeroCells z.cells (n + 1)).toList ++ List.drop (o + 0 + (Builtin.zeroCells z.cells (n + 1)).toList.length) cur.toList).toArray, ?_, ?_, ?_, setRow_grown _ _ _⟩
    · simp only [Nat.add_zero]
      show (w.heap.modify g _)[g]? = _
      rw [Array.getElem?_modify, if_pos rfl, hg]
      rfl
    · simp [hl]
      omega
    · rw [List.append_assoc, List.take_append_of_le_length (by simp; omega), Nat.add_zero, List.take_take, Nat.min_self]
end Go.Proofs.YtblpknkgjkbacaaGreatDoor
namespace Go.Proofs.YtblpknkgjkbacaaGreatDoor
open Go.RowKit
theorem Tryz.infoForm2 : (Tryz.prog.info? 28).map (·.size) = some 2 := by kernel_rfl
end Go.Proofs.YtblpknkgjkbacaaGreatDoor
namespace Go.Proofs.YtblpknkgjkbacaaGreatDoor
open Go.RowKit
attribute [local go_sem ↓] Go.wp_at_zero Go.wp_at_succ
def strI : ByteArray := ⟨#[105]⟩
def strJ : ByteArray := ⟨#[106]⟩
theorem pick_lit' (B m b : Nat) (zs : List Int) (T : TypeId) (w : World) (hb : w.heap.size = b) (hs : StreamAt w B m) (hm : m ≤ 1099511627776) (h1 : 1 ≤ zs.length) (h2 : zs.length ≤ 1000) :
    Calls Tryz.prog 6 #[.pointer (some ⟨B, 0, none⟩), .slice (some ⟨b, 0, none⟩) zs.length zs.length] (w.alloc (.cells (zs.map (Value.int .i64)).toArray T)) (PickOf B (m + 1) zs w) := by
  subst hb
  exact pick_lit B m zs T w hs hm h1 h2
theorem some_lit' (B m b : Nat) (zs : List ByteArray) (T : TypeId) (w : World) (hb : w.heap.size = b) (hs : StreamAt w B m) (hm : m ≤ 1099511627776) (h1 : 1 ≤ zs.length) (h2 : zs.length ≤ 1000) :
    Calls Tryz.prog 7 #[.pointer (some ⟨B, 0, none⟩), .slice (some ⟨b, 0, none⟩) zs.length zs.length] (w.alloc (.cells (zs.map Value.string).toArray T)) (SomeOf B (m + 1) zs w) := by
  subst hb
  exact some_lit B m zs T w hs hm h1 h2
theorem grown_drew (w : World) (r : Option Nat) : w.grownBy w.drew r := ⟨rfl, rfl, rfl, Nat.le_refl _, fun _ _ _ => rfl⟩
variable {B m m' : Nat} {w0 w w' : World} {sv cv : Value}
theorem Drawn.grown {a b c : World} (h : Drawn B m a b) (k : b.grownBy c none) : Drawn B m a c := ⟨grownBy_trans h.1 (grownBy_any _ k), h.2.kept k⟩
theorem Tryz.infoTerm : (Tryz.prog.info? 54).map (fun i => (i.zero, i.size, i.bytes)) = some (some (.agg #[.string ByteArray.empty, .int .i64 0]), 2, 24) := by kernel_rfl
theorem owns_lower {w : World} {base base' : Nat} {e : TypeId} {size : Nat} {v : Value} {n : Nat} {xs : List Value} (h : w.ownsRow base e size v n xs) (hb : base' ≤ base) : w.ownsRow base' e size v n xs := by
  obtain ⟨a1, a2⟩ := h
  refine ⟨a1, ?_⟩
  rcases a2 with a2 | ⟨g, cap, cur, hv, hb, r⟩
  · exact .inl a2
  · exact .inr ⟨g, cap, cur, hv, by omega, r⟩
/-- A draw's contract in a world that has grown since. -/
theorem some_from (B m b : Nat) (zs : List ByteArray) (w W : World) (hg : w.grownBy W none) (hs : StreamAt w B m) (hm : m ≤ 1099511627776) (hb : b ≠ B) (h1 : 1 ≤ zs.length) (h2 : zs.length ≤ 1000)
    (hc : ∀ j, j < zs.length → W.cell? ⟨b, j, none⟩ = some (.string (zs.getD j ByteArray.empty))) :
    Calls Tryz.prog 7 #[.pointer (some ⟨B, 0, none⟩), .slice (some ⟨b, 0, none⟩) zs.length zs.length] W (fun e w' => ∃ z : ByteArray, z ∈ zs ∧ e = .returned (.string z) ∧ Drawn B (m + 1) w w' ∧ W.grownBy w' (some B)) := by
  refine (some_any B m b zs.length zs W (hs.kept hg) hm hb h1 h2 hc).mono ?_
  rintro e w' ⟨z, hz, rfl, hd⟩
  exact ⟨z, hz, rfl, ⟨grownBy_trans (grownBy_any _ hg) hd.1, hd.2⟩, hd.1⟩
theorem pick_from (B m b : Nat) (zs : List Int) (w W : World) (hg : w.grownBy W none) (hs : StreamAt w B m) (hm : m ≤ 1099511627776) (hb : b ≠ B) (h1 : 1 ≤ zs.length) (h2 : zs.length ≤ 1000)
    (hc : ∀ j, j < zs.length → W.cell? ⟨b, j, none⟩ = some (.int .i64 (zs.getD j 0))) :
    Calls Tryz.prog 6 #[.pointer (some ⟨B, 0, none⟩), .slice (some ⟨b, 0, none⟩) zs.length zs.length] W (fun e w' => ∃ z : Int, z ∈ zs ∧ e = .returned (.int .i64 z) ∧ Drawn B (m + 1) w w' ∧ W.grownBy w' (some B)) := by
  refine (pick_any B m b zs.length zs W (hs.kept hg) hm hb h1 h2 hc).mono ?_
  rintro e w' ⟨z, hz, rfl, hd⟩
  exact ⟨z, hz, rfl, ⟨grownBy_trans (grownBy_any _ hg) hd.1, hd.2⟩, hd.1⟩
theorem grown_a1 (w : World) (o : Obj) : w.grownBy (w.alloc o).drew none := grownBy_trans (World.grownBy_alloc w o none) (grown_drew _ _)
theorem grown_a2 (w : World) (o x : Obj) : w.grownBy ((w.alloc o).alloc x).drew none := grownBy_trans (World.grownBy_alloc w o none) (grown_a1 _ _)
theorem own_ne {w : World} {base k : Nat} {e : TypeId} {size : Nat} {v : Value} {n : Nat} {xs : List Value} (h : w.ownsRow base e size v n xs) (hk : k < base) : v.ownBlock = none ∨ v.ownBlock ≠ some k := by
  cases hb : v.ownBlock with
  | none => exact .inl rfl
  | some b =>
    refine .inr fun e => ?_
    have := (h.lt b hb).1
    have := Option.some.inj e
    omega
end Go.Proofs.YtblpknkgjkbacaaGreatDoor
namespace Go.Proofs.YtblpknkgjkbacaaGreatDoor
open Go.RowKit
/-- The reader at R: its text, the kind of the word that is next, where it stands, and what is behind it; nothing has failed. -/
def RdAt (w : World) (R : Nat) (s : ByteArray) (k st bh : Nat) : Prop := w.heap[R]? = some (.cells #[.string s, .int .i64 k, .int .i64 st, .int .i64 bh, .bool false, .int .i64 0] 127 (0, 0))
variable {w w' : World} {R k st bh : Nat} {s : ByteArray}
theorem RdAt.cells (h : RdAt w R s k st bh) : w.cell? ⟨R, 0, none⟩ = some (.string s) ∧ w.cell? ⟨R, 1, none⟩ = some (.int .i64 k) ∧ w.cell? ⟨R, 2, none⟩ = some (.int .i64 st) ∧ w.cell? ⟨R, 3, none⟩ = some (.int .i64 bh) ∧ w.cell? ⟨R, 4, none⟩ = some (.bool false) ∧ ∀ j, w.frozen? ⟨R, j, none⟩ = false := by
  unfold RdAt at h
  refine ⟨?_, ?_, ?_, ?_, ?_, fun j => by simp [World.frozen?, h]⟩ <;> (unfold World.cell?; rw [h]; rfl)
theorem RdAt.kept (h : RdAt w R s k st bh) {r : Option Nat} (hg : w.grownBy w' r) (hn : r ≠ some R) : RdAt w' R s k st bh := heap_keep h hg hn
theorem RdAt.set1 (h : RdAt w R s k st bh) (n : Nat) : RdAt (w.setCell ⟨R, 1, none⟩ (.int .i64 n)) R s n st bh := by
  unfold RdAt at *
  simp [World.setCell, Array.getElem?_modify, h]
theorem RdAt.set2 (h : RdAt w R s k st bh) (n : Nat) : RdAt (w.setCell ⟨R, 2, none⟩ (.int .i64 n)) R s k n bh := by
  unfold RdAt at *
  simp [World.setCell, Array.getElem?_modify, h]
theorem RdAt.set3 (h : RdAt w R s k st bh) (n : Nat) : RdAt (w.setCell ⟨R, 3, none⟩ (.int .i64 n)) R s k st n := by
  unfold RdAt at *
  simp [World.setCell, Array.getElem?_modify, h]
/-- Where the next word begins, its kind, and what is behind it. -/
def atN (s : ByteArray) (bh : Nat) : Nat := bh + gapAt false s bh
def restN (s : ByteArray) (bh : Nat) : ByteArray := s.extract (atN s bh) s.size
def kindN (s : ByteArray) (bh : Nat) : Nat := (wordW (restN s bh)).1
def behindN (s : ByteArray) (bh : Nat) : Nat := atN s bh + (wordW (restN s bh)).2
/-- The reader goes on to the word behind bh. -/
def Went (R : Nat) (s : ByteArray) (bh : Nat) (w : World) (w' : World) : Prop := RdAt w' R s (kindN s bh) (atN s bh) (behindN s bh) ∧ w.grownBy w' (some R)
theorem word_le (s : ByteArray) : (wordW s).2 ≤ s.size := by
  have h1 := nm_le (Nat.zero_le s.size)
  have h2 : numW s ≤ s.size ∨ s.size = 0 := by
    unfold numW
    split
    · omega
    · have := numL_le 7 s.data.toList
      have e : s.data.toList.length = s.size := by simp
      unfold numAt
      rw [List.drop_zero]
      show numL 7 s.data.toList ≤ s.size ∨ _
      omega
  unfold wordW
  by_cases h0 : s.size = 0
  · rw [if_pos h0]; exact Nat.zero_le _
  rw [if_neg h0]
  split
  · split <;> (show nmAt s 0 ≤ s.size; omega)
  split
  · show numW s ≤ s.size
    omega
  split
  · rename_i h
    have : dotsL.size ≤ s.size := by unfold prefB at h; simp at h; exact h.1
    exact this
  split
  · rename_i h
    have : geqL.size ≤ s.size := by unfold prefB at h; simp at h; exact h.1
    exact this
  split <;> (show 1 ≤ s.size; omega)
theorem atN_le (h : bh ≤ s.size) : atN s bh ≤ s.size := gap_le false h
theorem behind_le (h : bh ≤ s.size) : behindN s bh ≤ s.size := by
  have h1 := word_le (restN s bh)
  have h2 : (restN s bh).size = s.size - atN s bh := by unfold restN; simp
  have h3 := atN_le h
  unfold behindN
  omega
theorem far_cell {i j : Nat} {u : Value} (v : Value) (hij : i ≠ j) (h : w.cell? ⟨R, j, none⟩ = some u) : (w.setCell ⟨R, i, none⟩ v).drew.cell? ⟨R, j, none⟩ = some u := by
  have e : (w.setCell ⟨R, i, none⟩ v).cell? ⟨R, j, none⟩ = w.cell? ⟨R, j, none⟩ := World.cell?_setCell_other _ _ _ _ (by simp)
  have e2 := (grown_drew (w.setCell ⟨R, i, none⟩ v) none).cell (e.trans h) (by simp)
  exact e2
set_option maxRecDepth 100000 in
set_option maxHeartbeats 2000000 in
theorem rdNext_any (h : RdAt w R s k st bh) (hs : s.size ≤ 100000) (hb : bh ≤ s.size) :
    Calls Tryz.prog 98 #[.pointer (some ⟨R, 0, none⟩)] w (fun e w' => e = .returned (.tuple #[]) ∧ Went R s bh w w') := by
  have hm : s.size ≤ maxLen := by unfold maxLen; omega
  have HM := Lib.hid hm
  have H0 := Lib.hid h
  have hat : atN s bh ≤ s.size := gap_le false hb
  have HA := Lib.hid (rfl : atN s bh = bh + gapAt false s bh)
  obtain ⟨c0, c1, c2, c3, c4, cf⟩ := h.cells
  clear h hm
  go_enter Tryz.func98, Tryz.ntmps98
  go_upto_region 0 with fail
  go_region_held3 (fun W => W.cell? ⟨R, 0, none⟩ = some (.string s) ∧ W.cell? ⟨R, 3, none⟩ = some (.int .i64 bh)) (first | exact ⟨far_cell _ (by decide) c0, far_cell _ (by decide) c3⟩ | go_keep) (first
    | (go_at_call 126; go_must (refine (skipGap_any s bh _ HM.out hb).mono ?_; rintro e w1 ⟨rfl, rfl⟩)))
  all_goals
    have e : ((bh : Int) + (gapAt false s bh : Int)) = ((atN s bh : Nat) : Int) := by unfold atN; push_cast; rfl
    rw [e]
    have H1 : Hid (RdAt (w.setCell ⟨R, 2, none⟩ (.int .i64 (atN s bh))).drew R s k (atN s bh) bh) := (H0.out.set2 (atN s bh)).kept (grown_drew _ none) (by simp)
    have G1 : Hid (w.grownBy (w.setCell ⟨R, 2, none⟩ (.int .i64 (atN s bh))).drew (some R)) := grownBy_trans (grown_set _ _ _ _) (grown_drew _ _)
    clear c0 c1 c2 c3 c4 cf H0 e
    generalize (w.setCell ⟨R, 2, none⟩ (.int .i64 (atN s bh))).drew = w1 at *
    obtain ⟨c0, c1, c2, c3, c4, cf⟩ := H1.out.cells
    have hatI : ((atN s bh : Nat) : Int) ≤ (s.size : Int) := by omega
    have hat0 : (0 : Int) ≤ ((atN s bh : Nat) : Int) := by omega
    have hrs : (s.extract (atN s bh) s.size).size ≤ maxLen := by
      have := HM.out
      simp
      omega
    go_upto_region 1 with fail
    go_region_held3 (fun W => W.cell? ⟨R, 0, none⟩ = some (.string s) ∧ W.cell? ⟨R, 2, none⟩ = some (.int .i64 (atN s bh))) (first | exact ⟨(grown_drew _ none).cell c0 (by simp), (grown_drew _ none).cell c2 (by simp)⟩ | go_keep) (first
      | (go_at_call 127; go_must (refine (firstWord_any _ _ hrs).mono ?_; rintro e w2 ⟨rfl, rfl⟩)))
    all_goals
      have H2 : Hid (RdAt w1.drew R s k (atN s bh) bh) := H1.out.kept (grown_drew _ none) (by simp)
      have G2 : Hid (w.grownBy w1.drew (some R)) := grownBy_trans G1.out (grown_drew _ _)
      clear c0 c1 c2 c3 c4 cf H1 G1
      generalize w1.drew = w2 at *
      obtain ⟨c0, c1, c2, c3, c4, cf⟩ := H2.out.cells
      have d2 : ∀ v, (w2.setCell ⟨R, 1, none⟩ v).cell? ⟨R, 2, none⟩ = some (.int .i64 (atN s bh)) := fun v => (World.cell?_setCell_other _ _ _ _ (by simp)).trans c2
      have hk : (wordW (s.extract (atN s bh) s.size)).1 = kindN s bh := rfl
      have hw : (wordW (s.extract (atN s bh) s.size)).2 = behindN s bh - atN s bh := by unfold behindN restN; omega
      have hle : atN s bh ≤ behindN s bh := by unfold behindN; omega
      have e : ((atN s bh : Nat) : Int) + ((behindN s bh - atN s bh : Nat) : Int) = ((behindN s bh : Nat) : Int) := by omega
      have hbd : ((behindN s bh : Nat) : Int) ≤ 1000000 := by have := behind_le hb; omega
      rw [hk, hw]
      go_wp2_with fail
      exact bodyPost_end (results_none rfl _ _ _) rfl ⟨rfl, (H2.out.set1 _).set3 _, grownBy_trans G2.out (grownBy_trans (grown_set _ _ _ _) (grown_set _ _ _ _))⟩
end Go.Proofs.YtblpknkgjkbacaaGreatDoor
