/-
 The state of PointsIn's recursion: where the numbers, the points so far and the closure lie.
 PointsIn's recursion: its end, and its step.
-/
import Derived.Test.YtfilcaolgfghcaaGreatIsPoint
import Derived.Deep.AppendLies
import Derived.Deep.RegionLaw
namespace Go.Proofs.YtfilcaolgfghcaaGreat
open Go.RowKit

def rangeI (lo : Int) (n : Nat) : List Int := (List.range n).map (fun (k : Nat) => lo + (k : Int))
/-- All points of a set that begin so, in order. -/
def pointsFrom (S : List SideD × List CondD) : List Int → List SideD → List (List Int)
  | pre, [] => if pointB S pre then [pre] else []
  | pre, s :: r => (rangeI s.2.1 (s.2.2 - s.2.1 + 1).toNat).flatMap fun v => pointsFrom S (pre ++ [v]) r
def boxN : List SideD → Nat
  | [] => 1
  | s :: r => (s.2.2 - s.2.1 + 1).toNat * boxN r

theorem length_flatMap_le {α β : Type} {f : α → List β} {m : Nat} : ∀ {l : List α}, (∀ a ∈ l, (f a).length ≤ m) → (l.flatMap f).length ≤ l.length * m
  | [], _ => by simp
  | a :: r, h => by
    have h1 := h a (by simp)
    have h2 := length_flatMap_le (l := r) (fun a ha => h a (by simp [ha]))
    simp only [List.flatMap_cons, List.length_append, List.length_cons, Nat.succ_mul]
    omega
theorem pointsFrom_length (S : List SideD × List CondD) : ∀ (rest : List SideD) (pre : List Int), (pointsFrom S pre rest).length ≤ boxN rest
  | [], pre => by
    simp only [pointsFrom, boxN]
    split <;> simp
  | s :: r, pre => by
    simp only [pointsFrom, boxN]
    refine Nat.le_trans (length_flatMap_le (m := boxN r) fun v _ => pointsFrom_length S r _) ?_
    simp [rangeI]
theorem rangeI_succ (lo : Int) (n : Nat) : rangeI lo (n + 1) = rangeI lo n ++ [lo + (n : Int)] := by simp [rangeI, List.range_succ]

def RowsAre (w : World) (base : Nat) (ob : Option Nat) (vs : List Value) (R : List (List Int)) : Prop :=
  vs.length = R.length ∧ ∀ (j : Nat) (pt : List Int), R[j]? = some pt → ∃ rv, vs[j]? = some rv ∧ w.ownsRow base 3 1 rv pt.length (pt.map (Value.int .i64)) ∧ (rv.ownBlock = none ∨ rv.ownBlock ≠ ob)

theorem RowsAre.kept {w w' : World} {base : Nat} {ob row : Option Nat} {vs : List Value} {R : List (List Int)} (h : RowsAre w base ob vs R) (hg : w.grownBy w' row) (hr : row = ob ∨ ∀ k, row = some k → k < base) : RowsAre w' base ob vs R := by
  refine ⟨h.1, fun j pt hj => ?_⟩
  obtain ⟨rv, h1, h2, h3⟩ := h.2 j pt hj
  refine ⟨rv, h1, h2.kept hg ?_, h3⟩
  rcases hr with rfl | hr
  · exact h3
  · cases hb : rv.ownBlock with
    | none => exact .inl rfl
    | some g =>
      refine .inr fun e => ?_
      have := (h2.lt g hb).1
      have := hr g e.symm
      omega

def go1Fn (H : Nat) : Value := .func (.func 85) #[] #[.pointer (some ⟨H + 3, 0, none⟩), .pointer (some ⟨H, 0, none⟩), .pointer (some ⟨H + 1, 0, none⟩), .pointer (some ⟨H + 4, 0, none⟩)]

structure GoSt (w0 : World) (H : Nat) (w : World) (sv cv : Value) (n : Nat) (xs : List Int) (R : List (List Int)) : Prop where
  le : w0.heap.size ≤ H
  grown : w0.grownBy w none
  size : H + 5 ≤ w.heap.size
  f0 : w.cell? ⟨H, 0, none⟩ = some sv
  f1 : w.cell? ⟨H, 1, none⟩ = some cv
  xb : w.heap[H + 2]? = some (.cells (xs.map (Value.int .i64)).toArray 3 (0, 0))
  len : xs.length = n
  xc : w.cell? ⟨H + 3, 0, none⟩ = some (.slice (some ⟨H + 2, 0, none⟩) n n)
  gc : w.cell? ⟨H + 4, 0, none⟩ = some (go1Fn H)
  out : ∃ ov vs, w.heap[H + 1]? = some (.cells #[ov] 48 (0, 0)) ∧ w.ownsRow (H + 5) 22 1 ov R.length vs ∧ RowsAre w (H + 5) ov.ownBlock vs R

variable {w0 w w' : World} {H : Nat} {sv cv : Value} {n : Nat} {xs xs' : List Int} {R : List (List Int)}

/-- A write into the numbers' block alone. -/
theorem GoSt.turn (h : GoSt w0 H w sv cv n xs R) (hg : w.grownBy w' (some (H + 2))) (hb : w'.heap[H + 2]? = some (.cells (xs'.map (Value.int .i64)).toArray 3 (0, 0))) (hl : xs'.length = n) : GoSt w0 H w' sv cv n xs' R := by
  have hl0 := h.le
  have hs := h.size
  obtain ⟨ov, vs, h1, h2, h3⟩ := h.out
  refine ⟨h.le, grown_own h.grown hg (fun k hk => by cases hk; omega), Nat.le_trans h.size hg.size, hg.cell h.f0 (by simp), hg.cell h.f1 (by simp), hb, hl, hg.cell h.xc (by simp), hg.cell h.gc (by simp), ov, vs, ?_, ?_, ?_⟩
  · rw [hg.block (H + 1) (by omega) (by simp)]; exact h1
  · refine h2.kept hg ?_
    cases hb : ov.ownBlock with
    | none => exact .inl rfl
    | some g =>
      refine .inr fun e => ?_
      have := (h2.lt g hb).1
      cases e
      omega
  · exact h3.kept hg (.inr fun k hk => by cases hk; omega)

theorem GoSt.kept (h : GoSt w0 H w sv cv n xs R) (hg : w.grownBy w' none) : GoSt w0 H w' sv cv n xs R := by
  have hs := h.size
  refine h.turn (grownBy_any _ hg) ?_ h.len
  rw [hg.block (H + 2) (by omega) (by simp)]
  exact h.xb

/-- A number is set. -/
theorem GoSt.set (h : GoSt w0 H w sv cv n xs R) (i : Nat) (v : Int) : GoSt w0 H (w.setCell ⟨H + 2, i, none⟩ (.int .i64 v)) sv cv n (xs.set i v) R := by
  refine h.turn ⟨rfl, rfl, rfl, by simp [World.setCell], fun k _ hk => Below.heap_setCell w ⟨H + 2, i, none⟩ _ k (by simpa using hk)⟩ ?_ (by simp [h.len])
  show (w.heap.modify (H + 2) _)[H + 2]? = _
  rw [Array.getElem?_modify, if_pos rfl, h.xb]
  simp [List.map_set]

/-- A point is added. -/
theorem GoSt.push {w1 w2 w3 : World} {ov v' rv : Value} {vs : List Value} {pt : List Int} {g cap : Nat} (h : GoSt w0 H w sv cv n xs R) (h2 : w.ownsRow (H + 5) 22 1 ov R.length vs) (h3 : RowsAre w (H + 5) ov.ownBlock vs R)
    (k1 : w.grownBy w1 none) (hrv : w1.ownsRow (H + 5) 3 1 rv pt.length (pt.map (Value.int .i64))) (hrn : ∀ b, rv.ownBlock = some b → w.heap.size ≤ b) (k2 : w1.grownBy w2 ov.ownBlock) (ho : w2.ownsRow (H + 5) 22 1 v' (R.length + 1) (vs ++ [rv]))
    (hv : v' = .slice (some ⟨g, 0, none⟩) (R.length + 1) cap) (hg : ov.ownBlock = some g ∨ w1.heap.size ≤ g) (k3 : w2.grownBy w3 (some (H + 1))) (h4 : w3.heap[H + 1]? = some (.cells #[v'] 48 (0, 0))) : GoSt w0 H w3 sv cv n xs (R ++ [pt]) := by
  have hl0 := h.le
  have hs := h.size
  have hob : ∀ k, ov.ownBlock = some k → H + 5 ≤ k ∧ k < w.heap.size := h2.lt
  have hne : ∀ j, j < H + 5 → some j ≠ ov.ownBlock := fun j hj e => by have := hob j e.symm; omega
  have cellw : ∀ {a : Addr} {v : Value}, w.cell? a = some v → a.block < H + 5 → a.block ≠ H + 1 → w3.cell? a = some v := fun hc hlt hn =>
    k3.cell (k2.cell (k1.cell hc (by simp)) (hne _ hlt)) (by simpa using hn)
  have hgv : v'.ownBlock = some g := by rw [hv]; rfl
  refine ⟨h.le, ?_, Nat.le_trans h.size (Nat.le_trans k1.size (Nat.le_trans k2.size k3.size)), cellw h.f0 (by simp) (by simp), cellw h.f1 (by simp) (by simp), ?_, h.len, cellw h.xc (by simp) (by simp), cellw h.gc (by simp) (by simp), v', vs ++ [rv], h4, ?_, ?_⟩
  · refine grown_own (grown_own (grownBy_trans h.grown k1) k2 (fun k hk => ?_)) k3 (fun k hk => by cases hk; omega)
    have := hob k hk
    omega
  · rw [k3.block (H + 2) (by have := k1.size; have := k2.size; omega) (by simp), k2.block (H + 2) (by have := k1.size; omega) (hne _ (by omega)), k1.block (H + 2) (by omega) (by simp)]
    exact h.xb
  · rw [List.length_append]
    refine ho.kept k3 (.inr fun e => ?_)
    rw [hgv] at e
    have := (ho.lt g hgv).1
    cases e
    omega
  · have hk : ∀ (r : Value) (p : List Int), w1.ownsRow (H + 5) 3 1 r p.length (p.map (Value.int .i64)) → (r.ownBlock = none ∨ r.ownBlock ≠ ov.ownBlock) → w3.ownsRow (H + 5) 3 1 r p.length (p.map (Value.int .i64)) := fun r p hr hn => by
      refine (hr.kept k2 hn).kept k3 ?_
      cases hb : r.ownBlock with
      | none => exact .inl rfl
      | some b =>
        refine .inr fun e => ?_
        have := (hr.lt b hb).1
        cases e
        omega
    refine ⟨by simp [h3.1], fun j p hj => ?_⟩
    by_cases hj' : j < R.length
    · rw [List.getElem?_append_left hj'] at hj
      obtain ⟨r, r1, r2, r3⟩ := h3.2 j p hj
      refine ⟨r, by rw [List.getElem?_append_left (by rw [h3.1]; exact hj')]; exact r1, hk r p (owns_kept r2 k1) r3, ?_⟩
      cases hb : r.ownBlock with
      | none => exact .inl rfl
      | some b =>
        refine .inr fun e => ?_
        rw [hgv] at e
        have e := Option.some.inj e
        rcases hg with hg | hg
        · rcases r3 with r3 | r3
          · rw [hb] at r3; cases r3
          · exact r3 (by rw [hb, hg, e])
        · have := (r2.lt b hb).2
          have := k1.size
          omega
    · have hj2 : j = R.length := by
        have := (List.getElem?_eq_some_iff.1 hj).1
        simp at this
        omega
      subst hj2
      simp at hj
      subst hj
      refine ⟨rv, by rw [← h3.1]; simp, hk rv pt hrv ?_, ?_⟩
      · cases hb : rv.ownBlock with
        | none => exact .inl rfl
        | some b =>
          refine .inr fun e => ?_
          have := hrn b hb
          have := hob b e.symm
          omega
      · cases hb : rv.ownBlock with
        | none => exact .inl rfl
        | some b =>
          refine .inr fun e => ?_
          rw [hgv] at e
          have e := Option.some.inj e
          have h5 := hrn b hb
          have h6 := (hrv.lt b hb).2
          rcases hg with hg | hg
          · have := hob g hg
            omega
          · omega

end Go.Proofs.YtfilcaolgfghcaaGreat

namespace Go.Proofs.YtfilcaolgfghcaaGreat
open Go.RowKit
attribute [local go_sem ↓] Go.wp_at_zero Go.wp_at_succ

variable {w0 : World} {H : Nat} {n : Nat}

theorem GoSt.ints {w : World} {sv cv : Value} {xs : List Int} {R : List (List Int)} (h : GoSt w0 H w sv cv n xs R) (hn : n ≤ 1000000) (hb : ∀ x ∈ xs, -9223372036854775808 ≤ x ∧ x ≤ 9223372036854775807) : IntsAt w (.slice (some ⟨H + 2, 0, none⟩) n n) xs := by
  obtain ⟨_, _, _, _, _, hxb, hl, _, _, _⟩ := h
  subst hl
  refine ⟨_, _, rfl, hn, fun j x hj => ⟨H + 2, 0, rfl, hb x (List.mem_of_getElem? hj), ?_⟩⟩
  obtain ⟨hj1, rfl⟩ := List.getElem?_eq_some_iff.1 hj
  simp [World.cell?, hxb, hj1]

/-- What a call of the recursion leaves. -/
def GoPost (w0 : World) (H : Nat) (sv cv : Value) (n : Nat) (pre : List Int) (R : List (List Int)) (e : Ending) (w' : World) : Prop :=
  e = .returned (.tuple #[]) ∧ ∃ xs', GoSt w0 H w' sv cv n xs' R ∧ xs'.take pre.length = pre ∧ (∀ x ∈ xs', -9223372036854775808 ≤ x ∧ x ≤ 9223372036854775807)

theorem Tryz.infoInts : (Tryz.prog.info? 22).map (fun i => (i.zero, i.size, i.bytes)) = some (some (.slice none 0 0), 1, 24) := by kernel_rfl

theorem own_one {w : World} {base : Nat} {e : TypeId} {size : Nat} {v : Value} {n : Nat} {xs : List Value} (h : w.ownsRow base e size v n xs) : v.oneCell' = true := by
  rcases h.2 with ⟨rfl, _⟩ | ⟨g, cap, cur, rfl, _⟩ <;> rfl

theorem out_kept {w w1 w2 : World} {ov : Value} {o x : Obj} {r : Nat} {vs : List Value} (h1 : w.heap[H + 1]? = some x) (h2 : w.ownsRow (H + 5) 22 1 ov r vs) (k : w.grownBy w1 none) (g : (w1.alloc o).grownBy w2 ov.ownBlock) :
    w2.heap[H + 1]? = some x := by
  have hlt := (Array.getElem?_eq_some_iff.1 h1).1
  have hs := k.size
  rw [g.block (H + 1) (by simp; omega) (fun e => by have := h2.lt _ e.symm; omega), Below.heap_alloc w1 o (H + 1) (by omega), k.block (H + 1) hlt (by simp)]
  exact h1

/-- What a copy of the numbers leaves, in the midst of the recursion. -/
def CloneGo (w : World) (H : Nat) (n : Nat) (xs : List Int) (ov : Value) (e : Ending) (w' : World) : Prop :=
  ∃ rp rcap, e = .returned (.slice rp n rcap) ∧ Hid (w.grownBy w' none) ∧ Hid (w'.ownsRow (H + 5) 3 1 (.slice rp n rcap) n (xs.map (Value.int .i64))) ∧ Hid (∀ b, (Value.slice rp n rcap).ownBlock = some b → w.heap.size ≤ b) ∧
    w'.cell? ⟨H + 1, 0, none⟩ = some ov ∧ w'.cell? ⟨H + 3, 0, none⟩ = some (.slice (some ⟨H + 2, 0, none⟩) n n)

theorem clone_go {w W : World} {sv cv ov : Value} {xs : List Int} {R : List (List Int)} (h : GoSt w0 H w sv cv n xs R) (hn : n ≤ 1000) (ho : w.cell? ⟨H + 1, 0, none⟩ = some ov) (hg : w.grownBy W none) :
    Calls Tryz.prog 79 #[.slice (some ⟨H + 2, 0, none⟩) n n] W (CloneGo w H n xs ov) := by
  have hx := h.xc
  have hs := h.size
  obtain ⟨_, _, _, _, _, hxb, hl, _, _, _⟩ := h.kept hg
  subst hl
  refine (clone_any (H + 2) 0 xs.length xs W hn fun j x hj => ?_).mono ?_
  · obtain ⟨hj1, rfl⟩ := List.getElem?_eq_some_iff.1 hj
    simp [World.cell?, hxb, hj1]
  · rintro e w' ⟨v, rfl, hown, hgr⟩
    have hgw := grownBy_trans hg hgr
    have hsz := hg.size
    obtain ⟨rp, rcap, rfl⟩ : ∃ rp rcap, v = .slice rp xs.length rcap := by
      rcases hown.2 with ⟨rfl, hz⟩ | ⟨g, cap, cur, rfl, _⟩
      · exact ⟨none, 0, by rw [hz]⟩
      · exact ⟨_, _, rfl⟩
    refine ⟨rp, rcap, rfl, hgw, ?_, fun b hb => Nat.le_trans hsz (hown.lt b hb).1, hgw.cell ho (by simp), hgw.cell hx (by simp)⟩
    obtain ⟨h1, h2⟩ := hown
    refine ⟨h1, ?_⟩
    rcases h2 with h2 | ⟨g, cap, cur, hv, hb, r⟩
    · exact .inl h2
    · exact .inr ⟨g, cap, cur, hv, by omega, r⟩

theorem GoSt.push_set {w w1 w2 : World} {sv cv ov rp : Value} {xs : List Int} {R : List (List Int)} {vs : List Value} {o : Obj} {g cap : Nat} (h : GoSt w0 H w sv cv n xs R) (h2 : w.ownsRow (H + 5) 22 1 ov R.length vs) (h3 : RowsAre w (H + 5) ov.ownBlock vs R)
    (k1 : w.grownBy w1 none) (hrv : w1.ownsRow (H + 5) 3 1 rp n (xs.map (Value.int .i64))) (hrn : ∀ b, rp.ownBlock = some b → w.heap.size ≤ b) (k2 : (w1.alloc o).grownBy w2 ov.ownBlock)
    (ho : w2.ownsRow (H + 5) 22 1 (.slice (some ⟨g, 0, none⟩) (R.length + 1) cap) (R.length + 1) (vs ++ [rp])) (hg : ov.ownBlock = some g ∨ g = w1.heap.size + 1) (hb : w2.heap[H + 1]? = some (.cells #[ov] 48 (0, 0))) :
    GoSt w0 H (w2.setCell ⟨H + 1, 0, none⟩ (.slice (some ⟨g, 0, none⟩) (R.length + 1) cap)) sv cv n xs (R ++ [xs]) := by
  have hl := h.len
  refine h.push h2 h3 k1 (by rw [hl]; exact hrv) hrn (grownBy_trans (World.grownBy_alloc _ _ _) k2) ho rfl (by rcases hg with hg | hg; exact .inl hg; exact .inr (by omega)) ⟨rfl, rfl, rfl, by simp [World.setCell], fun k _ hk => Below.heap_setCell w2 ⟨H + 1, 0, none⟩ _ k (by simpa using hk)⟩ ?_
  show (w2.heap.modify (H + 1) _)[H + 1]? = _
  rw [Array.getElem?_modify, if_pos rfl, hb]
  simp

set_option maxRecDepth 100000 in
set_option maxHeartbeats 4000000 in
theorem go1_end (S : List SideD × List CondD) (p pc : Option Addr) (cap ccap : Nat) (w : World) (xs : List Int) (R : List (List Int)) (hS : SetAt w0 (.slice p S.1.length cap) (.slice pc S.2.length ccap) S) (hgood : setErr S = 0)
    (hn : n = S.1.length) (h : GoSt w0 H w (.slice p S.1.length cap) (.slice pc S.2.length ccap) n xs R) (hb : ∀ x ∈ xs, -9223372036854775808 ≤ x ∧ x ≤ 9223372036854775807) (hR : R.length ≤ 900000) :
    Calls Tryz.prog 85 #[.int .i64 n, .pointer (some ⟨H + 3, 0, none⟩), .pointer (some ⟨H, 0, none⟩), .pointer (some ⟨H + 1, 0, none⟩), .pointer (some ⟨H + 4, 0, none⟩)] w
      (GoPost w0 H (.slice p S.1.length cap) (.slice pc S.2.length ccap) n xs (R ++ pointsFrom S xs [])) := by
  have hn8 := (set_good hgood).1
  have HS := Lib.hid hS
  have HE := Lib.hid hgood
  have HG := Lib.hid h
  have HB := Lib.hid hb
  have HI := Lib.hid (h.ints (by omega) hb)
  have HL := Lib.hid (show xs.length = S.1.length by rw [h.len, hn])
  have hf0 := h.f0
  have hf1 := h.f1
  have hxc := h.xc
  have HW := Lib.hid h.grown
  have HN := Lib.hid hn
  have hn1 : n ≤ 1000 := by omega
  clear hS hgood h hb hn
  cases hp : pointB S xs
  · have HP := Lib.hid hp
    go_enter Tryz.func85, Tryz.ntmps85
    go_wp2_with (first | (go_at_call 86; refine (isPoint_any S _ _ _ xs _ (HS.out.kept HW.out) HI.out HE.out HL.out).mono ?_; rintro e w' ⟨rfl, hg1⟩; have G1 := Lib.hid hg1; clear hg1))
    exact bodyPost_ret (results_none rfl _ _ _) rfl ⟨rfl, xs, by simpa [pointsFrom, HP.out] using HG.out.kept G1.out, List.take_length, HB.out⟩
  · have HP := Lib.hid hp
    go_enter Tryz.func85, Tryz.ntmps85
    go_wp2_with (first | (go_at_call 86; refine (isPoint_any S _ _ _ xs _ (HS.out.kept HW.out) HI.out HE.out HL.out).mono ?_; rintro e w' ⟨rfl, hg1⟩; have G1 := Lib.hid hg1; clear hg1))
    have HK := Lib.hid (HG.out.kept G1.out)
    obtain ⟨ov, vs, h1, h2, h3⟩ := HK.out.out
    have hov : w'.cell? ⟨H + 1, 0, none⟩ = some ov := by simp [World.cell?, h1]
    have hxc' := HK.out.xc
    have HCl := Lib.hid (fun W hg => clone_go (W := W) HK.out hn1 hov hg)
    have H1 := Lib.hid h1
    have H2 := Lib.hid h2
    have H3 := Lib.hid h3
    have hs5 := HK.out.size
    clear h1 h2 h3
    obtain ⟨i0, hi, hz0, hz1, hz2⟩ := info_parts Tryz.infoInts
    go_region_law (first
      | (go_simp; go_at_call 79; refine (HCl.out _ ?_).mono ?_; (exact ⟨rfl, rfl, rfl, Nat.le_refl _, fun _ _ _ => rfl⟩); rintro e w1 ⟨rp, rcap, rfl, K1, KO, KB, c1, c2⟩; have c1' : (w1.alloc (.cells #[.slice rp n rcap] 22)).cell? ⟨H + 1, 0, none⟩ = some ov := (World.grownBy_alloc _ _ none).cell c1 (by simp))
      | (refine step_append_lies _ (by rfl) _ _ 48 (by rfl) (H + 5) 22 i0 (.slice none 0 0) 1 24 Tryz.underlying48 hi hz0 hz1 hz2 (by rfl) (by decide) ov R.length vs (by rfl) (World.ownsRow.alloc (owns_kept H2.out K1.out) _) ⟨w1.heap.size, 0, none⟩ 1 1 [.slice rp n rcap] (by rfl) (by rfl) news_at (by intro u hu; obtain rfl := List.mem_singleton.1 hu; exact own_one KO.out) (by decide) (by unfold maxLen; omega) (by omega) (by have := K1.out.size; simp; omega) (w1.heap.size + 1) (by simp) ?_; intro g ncap w2 hown2 hgrow2 hat _; have hb2 := out_kept H1.out H2.out K1.out hgrow2; have c3 : w2.cell? ⟨H + 1, 0, none⟩ = some ov := (by simp [World.cell?, hb2]); have f3 : w2.frozen? ⟨H + 1, 0, none⟩ = false := (by simp [World.frozen?, hb2]); have B2 := Lib.hid hb2; have O2 := Lib.hid hown2; have G2 := Lib.hid hgrow2; have A2 := Lib.hid hat; clear hb2 hown2 hgrow2 hat))
    all_goals
      go_wp2
      have hpt : pointsFrom S xs [] = [xs] := by simp [pointsFrom, HP.out]
      rw [hpt]
      exact bodyPost_ret (results_none rfl _ _ _) rfl ⟨rfl, xs, GoSt.push_set HK.out H2.out H3.out K1.out KO.out KB.out G2.out O2.out A2.out B2.out, List.take_length, HB.out⟩

end Go.Proofs.YtfilcaolgfghcaaGreat
