/-
 Lists that are compared.
 Values: numbers that a stream draws.
 The parts of a set while it is drawn: rows of sides, of conditions, of terms.
-/
import Derived.Test.YtfilcaolgfghcaaGreatPoints
namespace Go.Proofs.YtfilcaolgfghcaaGreat
open Go.RowKit

theorem eq_of_take {α : Type} {xs ys : List α} (hl : xs.length = ys.length) {k : Nat} (h : xs.take k = ys.take k) (hk : xs.length ≤ k) : xs = ys := by
  rwa [List.take_of_length_le hk, List.take_of_length_le (by omega)] at h
theorem ne_of_get {α : Type} {xs ys : List α} {k : Nat} {a b : α} (ha : xs[k]? = some a) (hb : ys[k]? = some b) (h : a ≠ b) : xs ≠ ys := by
  intro e
  subst e
  rw [ha] at hb
  exact h (Option.some.inj hb)
theorem take_eq_succ {α : Type} {xs ys : List α} {k : Nat} {a : α} (h : xs.take k = ys.take k) (ha : xs[k]? = some a) (hb : ys[k]? = some a) : xs.take (k + 1) = ys.take (k + 1) := by
  rw [List.take_add_one, List.take_add_one, h, ha, hb]

def sameInts (xs ys : List Int) : Bool := decide (xs = ys)

set_option maxHeartbeats 1000000 in
theorem equal_any (v u : Value) (xs ys : List Int) (w : World) (hv : IntsAt w v xs) (hu : IntsAt w u ys) :
    Calls Tryz.prog 60 #[v, u] w (GivesDrawn (.bool (sameInts xs ys)) w) := by
  obtain ⟨p, cap, rfl, hl, hc⟩ := hv
  obtain ⟨q, ucap, rfl, hul, huc⟩ := hu
  have H := Lib.hid hc
  have HU := Lib.hid huc
  clear hc huc
  by_cases hlen : xs.length = ys.length
  · have HL := Lib.hid hlen
    have hq : ((xs.length : Int) != (ys.length : Int)) = false := by simp [hlen]
    clear hlen
    go_enter Tryz.func60, Tryz.ntmps60
    go_wp2
    go_loopw [13] (fun i wr => ∃ k : Nat, k ≤ xs.length ∧ i = .int .i64 k ∧ Hid (xs.take k = ys.take k) ∧ Hid (w.grownBy wr none)) (fun i _ => xs.length - (intOf i).toNat)
    case atStart => exact ⟨0, Nat.zero_le _, rfl, rfl, grownBy_refl _ _⟩
    case round =>
      obtain ⟨k, hk, rfl, HR, HG⟩ := hrel
      by_cases hlt : k < xs.length
      · have hlt2 : k < ys.length := by have := HL.out; omega
        have h0 := List.getElem?_eq_getElem hlt
        have h1 := List.getElem?_eq_getElem hlt2
        obtain ⟨b, off, rfl, ⟨b1, b2⟩, hcx⟩ := H.out k _ h0
        obtain ⟨d, doff, rfl, ⟨d1, d2⟩, hcy⟩ := HU.out k _ h1
        have hcx' := World.grownBy.cell HG.out hcx (by simp)
        have hcy' := World.grownBy.cell HG.out hcy (by simp)
        have HN := Lib.hid (fun h => ne_of_get h0 h1 h)
        have HT := Lib.hid (fun (e : xs[k] = ys[k]) => take_eq_succ HR.out h0 (by rw [h1, e]))
        generalize xs[k] = x at *
        generalize ys[k] = y at *
        have hI1 : (k : Int) < (xs.length : Int) := by omega
        have hI2 : (k : Int) < (ys.length : Int) := by omega
        have hI3 : (0 : Int) ≤ (k : Int) := by omega
        clear h0 h1 hcx hcy
        go_wp2
        go_quiet (fail)
        go_wp2
        · have he : x ≠ y := by have h : (x != y) = true := (by assumption); simpa using h
          go_ret
          exact ⟨ret_bool (by simp [sameInts, HN.out he]), grownBy_trans HG.out (grownBy_drewN _ _ _)⟩
        · have he : x = y := by have h : (x != y) = false := (by assumption); simpa using h
          go_roundw
          case rel => exact ⟨k + 1, by omega, by go_num, HT.out he, grownBy_trans HG.out (grownBy_drewN _ _ _)⟩
          case measure => simp [intOf]; omega
      · go_wp2
        go_ret
        exact ⟨ret_bool (by simp [sameInts, eq_of_take HL.out HR.out (by omega)]), HG.out⟩
  · have hq : ((xs.length : Int) != (ys.length : Int)) = true := by simp; omega
    have hne : xs ≠ ys := fun e => hlen (by rw [e])
    have HN := Lib.hid hne
    clear hlen hne
    go_enter Tryz.func60, Tryz.ntmps60
    go_wp2
    go_ret
    exact ⟨ret_bool (by simp [sameInts, HN.out]), grownBy_refl _ _⟩

def sameRows (xs ys : List (List Int)) : Bool := decide (xs = ys)

set_option maxHeartbeats 1000000 in
theorem equalFunc_any (v u : Value) (xs ys : List (List Int)) (w : World) (hv : RowsAt w v xs) (hu : RowsAt w u ys) :
    Calls Tryz.prog 59 #[v, u, .func (.func 60) #[] #[]] w (GivesDrawn (.bool (sameRows xs ys)) w) := by
  obtain ⟨p, cap, rfl, hl, hc⟩ := hv
  obtain ⟨q, ucap, rfl, hul, huc⟩ := hu
  have H := Lib.hid hc
  have HU := Lib.hid huc
  clear hc huc
  by_cases hlen : xs.length = ys.length
  · have HL := Lib.hid hlen
    have hq : ((xs.length : Int) != (ys.length : Int)) = false := by simp [hlen]
    clear hlen
    go_enter Tryz.func59, Tryz.ntmps59
    go_wp2
    go_loopw [17] (fun i wr => ∃ k : Nat, k ≤ xs.length ∧ i = .int .i64 k ∧ Hid (xs.take k = ys.take k) ∧ Hid (w.grownBy wr none)) (fun i _ => xs.length - (intOf i).toNat)
    case atStart => exact ⟨0, Nat.zero_le _, rfl, rfl, grownBy_refl _ _⟩
    case round =>
      obtain ⟨k, hk, rfl, HR, HG⟩ := hrel
      by_cases hlt : k < xs.length
      · have hlt2 : k < ys.length := by have := HL.out; omega
        have h0 := List.getElem?_eq_getElem hlt
        have h1 := List.getElem?_eq_getElem hlt2
        obtain ⟨b, off, rv, rfl, hcx, hix⟩ := H.out k _ h0
        obtain ⟨d, doff, ru, rfl, hcy, hiy⟩ := HU.out k _ h1
        have hcx' := World.grownBy.cell HG.out hcx (by simp)
        have hcy' := World.grownBy.cell HG.out hcy (by simp)
        have HN := Lib.hid (fun h => ne_of_get h0 h1 h)
        have HT := Lib.hid (fun (e : xs[k] = ys[k]) => take_eq_succ HR.out h0 (by rw [h1, e]))
        have HC := Lib.hid (equal_any rv ru xs[k] ys[k] wr (hix.kept HG.out) (hiy.kept HG.out))
        generalize xs[k] = x at *
        generalize ys[k] = y at *
        clear h0 h1 hcx hcy hix hiy
        go_wp2_with (first | (go_at_call 60; refine HC.out.mono ?_; rintro e w' ⟨rfl, hg1⟩; have G1 := Lib.hid hg1; clear hg1))
        · have he : x ≠ y := by have h : (!sameInts x y) = true := (by assumption); simpa [sameInts] using h
          go_ret
          exact ⟨ret_bool (by simp [sameRows, HN.out he]), grownBy_trans HG.out G1.out⟩
        · have he : x = y := by have h : (!sameInts x y) = false := (by assumption); simpa [sameInts] using h
          go_roundw
          case rel => exact ⟨k + 1, by omega, by go_num, HT.out he, grownBy_trans HG.out G1.out⟩
          case measure => simp [intOf]; omega
      · go_wp2
        go_ret
        exact ⟨ret_bool (by simp [sameRows, eq_of_take HL.out HR.out (by omega)]), HG.out⟩
  · have hq : ((xs.length : Int) != (ys.length : Int)) = true := by simp; omega
    have hne : xs ≠ ys := fun e => hlen (by rw [e])
    have HN := Lib.hid hne
    clear hlen hne
    go_enter Tryz.func59, Tryz.ntmps59
    go_wp2
    go_ret
    exact ⟨ret_bool (by simp [sameRows, HN.out]), grownBy_refl _ _⟩

theorem sameLists_any (v u : Value) (xs ys : List (List Int)) (w : World) (hv : RowsAt w v xs) (hu : RowsAt w u ys) :
    Calls Tryz.prog 22 #[v, u] w (GivesDrawn (.bool (sameRows xs ys)) w) := by
  have HV := Lib.hid hv
  have HU := Lib.hid hu
  clear hv hu
  go_enter Tryz.func22, Tryz.ntmps22
  go_wp2_with (first | (go_at_call 59; refine (equalFunc_any v u xs ys _ HV.out HU.out).mono ?_; rintro e w' ⟨rfl, hg1⟩; have G1 := Lib.hid hg1; clear hg1))
  go_ret
  exact ⟨rfl, G1.out⟩

theorem when_any (b : Bool) (x : Int) (w : World) : Calls Tryz.prog 21 #[.bool b, .int .i64 x] w (Ret (.int .i64 (if b then x else 0)) w) := by
  cases b
  all_goals
    go_enter Tryz.func21, Tryz.ntmps21
    go_wp2
    go_ret
    exact ⟨rfl, rfl⟩

def first2 (a b : Int) : Int := if a == 0 then b else a

set_option maxHeartbeats 1000000 in
/-- The first error of two. -/
theorem errs_two (a b : Int) (w : World) : Calls Tryz.prog 16 #[.slice (some ⟨w.heap.size, 0, none⟩) 2 2] (w.alloc (.cells #[.int .i64 a, .int .i64 b] 40)) (Ret (.int .i64 (first2 a b)) (w.alloc (.cells #[.int .i64 a, .int .i64 b] 40))) := by
  have c0 : (w.alloc (.cells #[.int .i64 a, .int .i64 b] 40)).cell? ⟨w.heap.size, 0, none⟩ = some (.int .i64 a) := by simp
  have c1 : (w.alloc (.cells #[.int .i64 a, .int .i64 b] 40)).cell? ⟨w.heap.size, 1, none⟩ = some (.int .i64 b) := by simp
  have HW := Lib.hid (show w.alloc (.cells #[.int .i64 a, .int .i64 b] 40) = w.alloc (.cells #[.int .i64 a, .int .i64 b] 40) from rfl)
  generalize hW : w.alloc (.cells #[.int .i64 a, .int .i64 b] 40) = W at *
  generalize w.heap.size = B at *
  clear HW hW
  go_enter Tryz.func16, Tryz.ntmps16
  go_wp2
  go_loop [7] (fun i => ∃ k : Nat, k ≤ 2 ∧ i = .int .i64 k ∧ (1 ≤ k → Hid (a = 0)) ∧ (2 ≤ k → Hid (b = 0))) (fun i => 2 - (intOf i).toNat)
  case atStart => exact ⟨0, by omega, rfl, fun h => by omega, fun h => by omega⟩
  case round =>
    obtain ⟨k, hk, rfl, h1, h2⟩ := hrel
    rcases (show k = 0 ∨ k = 1 ∨ k = 2 by omega) with rfl | rfl | rfl
    · go_wp2
      · have he : a ≠ 0 := by have h : (a != 0) = true := (by assumption); simpa using h
        go_ret
        exact ⟨ret_i64 (by simp [first2, he]), rfl⟩
      · have he : a = 0 := by have h : (a != 0) = false := (by assumption); simpa using h
        go_round
        case rel => exact ⟨1, by omega, rfl, fun _ => he, fun h => by omega⟩
        case measure => simp [intOf]
    · have ha := Lib.hid (h1 (by omega)).out
      clear h1 h2
      go_wp2
      · have he : b ≠ 0 := by have h : (b != 0) = true := (by assumption); simpa using h
        go_ret
        exact ⟨ret_i64 (by rw [ha.out]; rfl), rfl⟩
      · have he : b = 0 := by have h : (b != 0) = false := (by assumption); simpa using h
        go_round
        case rel => exact ⟨2, by omega, rfl, fun _ => ha.out, fun _ => he⟩
        case measure => simp [intOf]
    · have ha := Lib.hid (h1 (by omega)).out
      have hb := Lib.hid (h2 (by omega)).out
      clear h1 h2
      go_wp2
      go_ret
      exact ⟨ret_i64 (by rw [ha.out, hb.out]; rfl), rfl⟩

end Go.Proofs.YtfilcaolgfghcaaGreat

namespace Go.Proofs.YtfilcaolgfghcaaGreat
open Go.RowKit

/-- The append of one element that was just laid in a block of its own; what the world becomes, told by its row. -/
theorem append_one_at {P : Program} {ops : Array Oper} {rest : List Oper} {o : Oper} {a : Act} {Q : Exit → Act → World → Prop} {w : World} (hgd : o.guard = none) (s x : Operand) (t : TypeId)
    (ho : o.op = .call { callee := .builtin .append, args := #[s, x], argTypes := #[t, t] })
    (base : Nat) (e : TypeId) (i : TypeInfo) (z : Value) (size bytes : Nat) (ht : P.underlying t = some (.slice e)) (hi : P.info? e = some i) (hz : i.zero = some z)
    (hsize : i.size = size) (hby : i.bytes = bytes) (hzs : z.cells.size = size) (hsz : 0 < size) (hbb : bytes ≤ 1000)
    (v : Value) (n : Nat) (xs news : List Value) (hs : a.eval s = v) (hown : w.ownsRow base e size v n xs)
    (hx : a.eval x = .slice (some ⟨w.heap.size, 0, none⟩) 1 1) (hl : news.length = size) (h1 : ∀ u ∈ news, u.oneCell' = true)
    (hn : n ≤ 1000000) (hbase : base ≤ w.heap.size)
    (h : ∀ v' w', w'.ownsRow base e size v' (n + 1) (xs ++ news) → w.grownBy w' v.ownBlock → (∀ k, v.ownBlock = some k → base ≤ k) → wpList P ops Q rest (a.put o.dst v') w') :
    wpList P ops Q (o :: rest) a (w.alloc (.cells news.toArray e)) := by
  refine wpList_append_own _ hgd s x t ho base e i z size bytes ht hi hz hsize hby hzs hsz v n xs hs (hown.alloc _) ⟨w.heap.size, 0, none⟩ 1 1 news hx (by omega) news_at h1 (by unfold maxLen; omega) ?_ (by simp; omega) ?_
  · have : (n + 1) * bytes ≤ 1000001 * 1000 := Nat.mul_le_mul (by omega) hbb
    omega
  · intro v' w' ho' hg _
    exact h v' w' ho' (grownBy_trans (World.grownBy_alloc _ _ _) hg) fun k hk => (hown.lt k hk).1

theorem owns_drawn {w w' : World} {B m : Nat} {base : Nat} {e : TypeId} {size : Nat} {v : Value} {n : Nat} {xs : List Value} (h : w.ownsRow base e size v n xs) (hd : Drawn B m w w') (hB : B < base) : w'.ownsRow base e size v n xs := by
  refine h.kept hd.1 ?_
  cases hb : v.ownBlock with
  | none => exact .inl rfl
  | some g =>
    refine .inr fun e => ?_
    have := (h.lt g hb).1
    have := Option.some.inj e
    omega

def small (x : Int) : Prop := -2000000000000 ≤ x ∧ x ≤ 2000000000000

end Go.Proofs.YtfilcaolgfghcaaGreat

namespace Go.Proofs.YtfilcaolgfghcaaGreat
open Go.RowKit

theorem flat_get {α β : Type} {f : α → List β} {k : Nat} (hf : ∀ a, (f a).length = k) : ∀ {l : List α} {j i : Nat} {a : α} {v : β}, l[j]? = some a → (f a)[i]? = some v → (l.flatMap f)[j * k + i]? = some v
  | [], j, i, a, v, h, _ => by simp at h
  | b :: r, 0, i, a, v, h, hv => by
    simp at h
    subst h
    have hi := (List.getElem?_eq_some_iff.1 hv).1
    rw [List.flatMap_cons, Nat.zero_mul, Nat.zero_add, List.getElem?_append_left hi]
    exact hv
  | b :: r, j + 1, i, a, v, h, hv => by
    have ih := flat_get hf (l := r) (j := j) (i := i) (a := a) (v := v) (by simpa using h) hv
    rw [List.flatMap_cons, List.getElem?_append_right (by rw [hf, Nat.succ_mul]; omega), hf]
    rw [show (j + 1) * k + i - k = j * k + i by rw [Nat.succ_mul]; omega]
    exact ih

theorem flat_length {α β : Type} {f : α → List β} {k : Nat} (hf : ∀ a, (f a).length = k) : ∀ (l : List α), (l.flatMap f).length = l.length * k
  | [] => by simp
  | a :: r => by rw [List.flatMap_cons, List.length_append, hf, flat_length hf r, List.length_cons, Nat.succ_mul]; omega

def sideCells (s : SideD) : List Value := [.string s.1, .int .i64 s.2.1, .int .i64 s.2.2]
def termCells (t : ByteArray × Int) : List Value := [.string t.1, .int .i64 t.2]
def condCells (q : CondD × Value) : List Value := [.int .i64 q.1.1, q.2]

/-- A cell of a row. -/
theorem own_cell {w : World} {base : Nat} {e : TypeId} {size : Nat} {v : Value} {n : Nat} {xs : List Value} (h : w.ownsRow base e size v n xs) {j : Nat} {u : Value} (hj : xs[j]? = some u) :
    ∃ g cap, v = .slice (some ⟨g, 0, none⟩) n cap ∧ base ≤ g ∧ w.cell? ⟨g, j, none⟩ = some u := by
  have hcells := fun g hg => World.ownsRow.cells (g := g) h hg
  rcases h.2 with ⟨rfl, hz⟩ | ⟨g, cap, cur, rfl, hb, _⟩
  · have := h.1
    rw [hz] at this
    simp at this
    rw [this] at hj
    simp at hj
  · have hadd : (⟨g, 0, none⟩ : Addr).add j = ⟨g, j, none⟩ := by unfold Addr.add; split <;> simp_all
    have := hcells g rfl j u hj
    rw [hadd] at this
    exact ⟨g, cap, rfl, hb, this⟩

/-- What a value that owns a row looks like. -/
theorem own_form {w : World} {base : Nat} {e : TypeId} {size : Nat} {v : Value} {n : Nat} {xs : List Value} (h : w.ownsRow base e size v n xs) : ∃ p cap, v = .slice p n cap := by
  rcases h.2 with ⟨rfl, hz⟩ | ⟨g, cap, cur, rfl, _⟩
  · exact ⟨none, 0, by rw [hz]⟩
  · exact ⟨_, _, rfl⟩

theorem own_cap {w : World} {base : Nat} {e : TypeId} {size : Nat} {p : Option Addr} {cap n : Nat} {xs : List Value} (h : w.ownsRow base e size (.slice p n cap) n xs) : n ≤ cap := by
  rcases h.2 with ⟨hv, hz⟩ | ⟨g, c, cur, hv, _, _, hc, _⟩
  · omega
  · obtain ⟨_, _, rfl⟩ := Value.slice.inj hv
    exact hc

def goodSide (s : SideD) : Prop := s.1.size ≤ 100 ∧ small s.2.1 ∧ small s.2.2
def goodTerm (t : ByteArray × Int) : Prop := t.1.size ≤ 100 ∧ small t.2

theorem sides_of_owns {w : World} {base : Nat} {e : TypeId} {v : Value} {l : List SideD} (h : w.ownsRow base e 3 v l.length (l.flatMap sideCells)) (hl : l.length ≤ 1000000) (hg : ∀ s ∈ l, goodSide s) : SidesAt w v l := by
  obtain ⟨p, cap, hv⟩ := own_form h
  refine ⟨p, cap, hv, ⟨hl, own_cap (hv ▸ h)⟩, fun j s hj => ?_⟩
  obtain ⟨g1, ⟨g2, g3⟩, ⟨g4, g5⟩⟩ := hg s (List.mem_of_getElem? hj)
  obtain ⟨b, c1, e1, _, k1⟩ := own_cell h (flat_get (k := 3) (fun _ => rfl) hj (i := 0) (v := .string s.1) rfl)
  obtain ⟨b2, c2, e2, _, k2⟩ := own_cell h (flat_get (k := 3) (fun _ => rfl) hj (i := 1) (v := .int .i64 s.2.1) rfl)
  obtain ⟨b3, c3, e3, _, k3⟩ := own_cell h (flat_get (k := 3) (fun _ => rfl) hj (i := 2) (v := .int .i64 s.2.2) rfl)
  rw [hv] at e1 e2 e3
  obtain ⟨rfl, _, _⟩ := Value.slice.inj e1
  obtain ⟨ee, _, _⟩ := Value.slice.inj e2
  obtain ⟨ee3, _, _⟩ := Value.slice.inj e3
  cases ee
  cases ee3
  refine ⟨b, 0, rfl, by unfold maxLen; omega, ⟨by omega, by omega⟩, ⟨by omega, by omega⟩, ?_, ?_, ?_⟩
  · simpa using k1
  · simpa using k2
  · simpa using k3

theorem terms_of_owns {w : World} {base : Nat} {e : TypeId} {v : Value} {l : List (ByteArray × Int)} (h : w.ownsRow base e 2 v l.length (l.flatMap termCells)) (hl : l.length ≤ 1000000) (hg : ∀ s ∈ l, goodTerm s) : TermsAt w v l := by
  obtain ⟨p, cap, hv⟩ := own_form h
  refine ⟨p, cap, hv, by unfold maxLen; omega, fun j s hj => ?_⟩
  obtain ⟨g1, g2, g3⟩ := hg s (List.mem_of_getElem? hj)
  obtain ⟨b, c1, e1, _, k1⟩ := own_cell h (flat_get (k := 2) (fun _ => rfl) hj (i := 0) (v := .string s.1) rfl)
  obtain ⟨b2, c2, e2, _, k2⟩ := own_cell h (flat_get (k := 2) (fun _ => rfl) hj (i := 1) (v := .int .i64 s.2) rfl)
  rw [hv] at e1 e2
  obtain ⟨rfl, _, _⟩ := Value.slice.inj e1
  obtain ⟨ee, _, _⟩ := Value.slice.inj e2
  cases ee
  refine ⟨b, 0, rfl, by unfold maxLen; omega, by omega, by omega, ?_, ?_⟩
  · simpa using k1
  · simpa using k2

/-- The conditions so far: a row of them, and a row of terms for each. -/
structure CSt (w : World) (P : Nat) (cv : Value) (l : List CondD) (tvs : List Value) : Prop where
  len : tvs.length = l.length
  row : w.ownsRow P 33 2 cv l.length ((l.zip tvs).flatMap condCells)
  terms : ∀ (j : Nat) (f : CondD) (tv : Value), l[j]? = some f → tvs[j]? = some tv → w.ownsRow P 66 2 tv f.2.length (f.2.flatMap termCells) ∧ (tv.ownBlock = none ∨ tv.ownBlock ≠ cv.ownBlock)
  good : ∀ f ∈ l, small f.1 ∧ f.2.length ≤ 1000 ∧ ∀ t ∈ f.2, goodTerm t

theorem CSt.start (w : World) (P : Nat) : CSt w P (.slice none 0 0) [] [] := ⟨rfl, World.ownsRow_nil _ _ _ _, fun j f tv h => by simp at h, fun f h => by cases h⟩

theorem CSt.kept {w w' : World} {P : Nat} {cv : Value} {l : List CondD} {tvs : List Value} {r : Option Nat} (h : CSt w P cv l tvs) (hg : w.grownBy w' r) (hr : ∀ k, r = some k → k < P) : CSt w' P cv l tvs := by
  have key : ∀ {e : TypeId} {size : Nat} {v : Value} {n : Nat} {xs : List Value}, w.ownsRow P e size v n xs → w'.ownsRow P e size v n xs := fun ho => by
    refine ho.kept hg ?_
    cases hb : Value.ownBlock _ with
    | none => exact .inl rfl
    | some g =>
      refine .inr fun e => ?_
      have := (ho.lt g hb).1
      have := hr g e.symm
      omega
  exact ⟨h.len, key h.row, fun j f tv h1 h2 => ⟨key (h.terms j f tv h1 h2).1, (h.terms j f tv h1 h2).2⟩, h.good⟩

theorem CSt.conds {w : World} {P : Nat} {cv : Value} {l : List CondD} {tvs : List Value} (h : CSt w P cv l tvs) (hl : l.length ≤ 1000000) : CondsAt w cv l := by
  obtain ⟨p, cap, hv⟩ := own_form h.row
  refine ⟨p, cap, hv, hl, fun j f hj => ?_⟩
  have hjl := (List.getElem?_eq_some_iff.1 hj).1
  have hjt : tvs[j]? = some (tvs[j]'(by rw [h.len]; exact hjl)) := List.getElem?_eq_getElem _
  generalize tvs[j]'(by rw [h.len]; exact hjl) = tv at hjt
  have hz : (l.zip tvs)[j]? = some (f, tv) := by
    rw [List.getElem?_zip_eq_some]
    exact ⟨hj, hjt⟩
  obtain ⟨⟨g1, g2⟩, g3, g4⟩ := h.good f (List.mem_of_getElem? hj)
  obtain ⟨b, c1, e1, _, k1⟩ := own_cell h.row (flat_get (k := 2) (fun _ => rfl) hz (i := 0) (v := .int .i64 f.1) rfl)
  obtain ⟨b2, c2, e2, _, k2⟩ := own_cell h.row (flat_get (k := 2) (fun _ => rfl) hz (i := 1) (v := tv) rfl)
  rw [hv] at e1 e2
  obtain ⟨rfl, _, _⟩ := Value.slice.inj e1
  obtain ⟨ee, _, _⟩ := Value.slice.inj e2
  cases ee
  exact ⟨b, 0, tv, rfl, by simpa using k1, by simpa using k2, terms_of_owns (h.terms j f tv hj hjt).1 (by omega) g4, by omega, by omega⟩

/-- A condition is added. -/
theorem CSt.push {w w1 w2 : World} {P B : Nat} {cv cv' tv : Value} {l : List CondD} {tvs : List Value} {c : Int} {ts : List (ByteArray × Int)} {g cap : Nat} (h : CSt w P cv l tvs) (hB : B < P) (hP : P ≤ w.heap.size)
    (k1 : w.grownBy w1 (some B)) (ht : w1.ownsRow w.heap.size 66 2 tv ts.length (ts.flatMap termCells)) (k2 : w1.grownBy w2 cv.ownBlock)
    (row : w2.ownsRow P 33 2 cv' (l.length + 1) ((l.zip tvs).flatMap condCells ++ condCells ((c, ts), tv))) (hv : cv' = .slice (some ⟨g, 0, none⟩) (l.length + 1) cap) (hg : cv.ownBlock = some g ∨ w1.heap.size ≤ g)
    (good : small c ∧ ts.length ≤ 1000 ∧ ∀ t ∈ ts, goodTerm t) : CSt w2 P cv' (l ++ [(c, ts)]) (tvs ++ [tv]) := by
  have hob : ∀ k, cv.ownBlock = some k → P ≤ k ∧ k < w.heap.size := h.row.lt
  have hgv : cv'.ownBlock = some g := by rw [hv]; rfl
  have h1 := h.kept k1 (fun k hk => by cases hk; exact hB)
  have ht' : w1.ownsRow P 66 2 tv ts.length (ts.flatMap termCells) := by
    obtain ⟨a1, a2⟩ := ht
    refine ⟨a1, ?_⟩
    rcases a2 with a2 | ⟨g, cap, cur, hv, hb, r⟩
    · exact .inl a2
    · exact .inr ⟨g, cap, cur, hv, by omega, r⟩
  refine ⟨by simp [h.len], ?_, fun j f u hj hu => ?_, fun f hf => ?_⟩
  · rw [List.length_append, List.zip_append (by rw [h.len]), List.flatMap_append]
    simpa using row
  · by_cases hj' : j < l.length
    · rw [List.getElem?_append_left hj'] at hj
      rw [List.getElem?_append_left (by rw [h.len]; exact hj')] at hu
      obtain ⟨r1, r2⟩ := h1.terms j f u hj hu
      have r0 := (h.terms j f u hj hu).1
      refine ⟨r1.kept k2 r2, ?_⟩
      cases hb : u.ownBlock with
      | none => exact .inl rfl
      | some b =>
        refine .inr fun e => ?_
        rw [hgv] at e
        have e := Option.some.inj e
        rcases hg with hg | hg
        · rcases r2 with r2 | r2
          · rw [hb] at r2; cases r2
          · exact r2 (by rw [hb, hg, e])
        · have := (r0.lt b hb).2
          have := k1.size
          omega
    · have hj2 : j = l.length := by
        have := (List.getElem?_eq_some_iff.1 hj).1
        simp at this
        omega
      subst hj2
      simp at hj
      subst hj
      rw [← h.len] at hu
      simp at hu
      subst hu
      refine ⟨ht'.kept k2 ?_, ?_⟩
      · cases hb : tv.ownBlock with
        | none => exact .inl rfl
        | some b =>
          refine .inr fun e => ?_
          have := (ht.lt b hb).1
          have := hob b e.symm
          omega
      · cases hb : tv.ownBlock with
        | none => exact .inl rfl
        | some b =>
          refine .inr fun e => ?_
          rw [hgv] at e
          have e := Option.some.inj e
          have h5 := (ht.lt b hb).1
          have h6 := (ht.lt b hb).2
          rcases hg with hg | hg
          · have := hob g hg
            omega
          · omega
  · rcases List.mem_append.1 hf with hf | hf
    · exact h.good f hf
    · obtain rfl := List.mem_singleton.1 hf
      exact good

end Go.Proofs.YtfilcaolgfghcaaGreat
