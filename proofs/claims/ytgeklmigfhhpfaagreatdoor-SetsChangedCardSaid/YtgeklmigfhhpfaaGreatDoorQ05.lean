/-
 The state of PointsIn's recursion: where the numbers, the points so far and the closure lie. PointsIn's recursion: its end, and its step. PointsIn's recursion: its step. CheckSet of package affine.
-/
import Derived.Deep.AppendLies
import Derived.Deep.RegionLaw
import Derived.Deep.LoopGhost
import Derived.Test.YtgeklmigfhhpfaaGreatDoorQ02
import Derived.Test.YtgeklmigfhhpfaaGreatDoorQ04
namespace Go.Proofs.YtgeklmigfhhpfaaGreatDoor
open Go.RowKit
def rangeI (lo : Int) (n : Nat) : List Int := (List.range n).map (fun (k : Nat) => lo + (k : Int))
def pointsFrom (S : List SideD × List CondD) : List Int → List SideD → List (List Int)
 | pre, [] => if pointB S pre then [pre] else []
 | pre, s :: r => (rangeI s.2.1 (s.2.2 - s.2.1 + 1).toNat).flatMap fun v => pointsFrom S (pre ++ [v]) r
def boxN : List SideD → Nat
 | [] => 1
 | s :: r => (s.2.2 - s.2.1 + 1).toNat * boxN r
theorem length_flatMap_le {α β : Type} {f : α → List β} {m : Nat} : ∀ {l : List α}, (∀ a ∈ l, (f a).length ≤ m) → (l.flatMap f).length ≤ l.length * m
 | [], _ => by simp
 | a :: r, h => by
   have h1 := h a (by simp)
   have h2 := length_flatMap_le (l := r) (fun a ha => h a (by simp [ha]))
   simp only [List.flatMap_cons, List.length_append, List.length_cons, Nat.succ_mul]
   omega
theorem pointsFrom_length (S : List SideD × List CondD) : ∀ (rest : List SideD) (pre : List Int), (pointsFrom S pre rest).length ≤ boxN rest
 | [], pre => by
   simp only [pointsFrom, boxN]
   split <;> simp
 | s :: r, pre => by
   simp only [pointsFrom, boxN]
   refine Nat.le_trans (length_flatMap_le (m := boxN r) fun v _ => pointsFrom_length S r _) ?_
   simp [rangeI]
theorem rangeI_succ (lo : Int) (n : Nat) : rangeI lo (n + 1) = rangeI lo n ++ [lo + (n : Int)] := by simp [rangeI, List.range_succ]
def RowsAre (w : World) (base : Nat) (ob : Option Nat) (vs : List Value) (R : List (List Int)) : Prop :=
 vs.length = R.length ∧ ∀ (j : Nat) (pt : List Int), R[j]? = some pt → ∃ rv, vs[j]? = some rv ∧ w.ownsRow base 3 1 rv pt.length (pt.map (Value.int .i64)) ∧ (rv.ownBlock = none ∨ rv.ownBlock ≠ ob)
theorem RowsAre.kept {w w' : World} {base : Nat} {ob row : Option Nat} {vs : List Value} {R : List (List Int)} (h : RowsAre w base ob vs R) (hg : w.grownBy w' row) (hr : row = ob ∨ ∀ k, row = some k → k < base) : RowsAre w' base ob vs R := by
 refine ⟨h.1, fun j pt hj => ?_⟩
 obtain ⟨rv, h1, h2, h3⟩ := h.2 j pt hj
 refine ⟨rv, h1, h2.kept hg ?_, h3⟩
 rcases hr with rfl | hr
 · exact h3
 · cases hb : rv.ownBlock with
   | none => exact .inl rfl
   | some g =>
     refine .inr fun e => ?_
     have := (h2.lt g hb).1
     have := hr g e.symm
     omega
def go1Fn (H : Nat) : Value := .func (.func 62) #[] #[.pointer (some ⟨H + 3, 0, none⟩), .pointer (some ⟨H, 0, none⟩), .pointer (some ⟨H + 1, 0, none⟩), .pointer (some ⟨H + 4, 0, none⟩)]
structure GoSt (w0 : World) (H : Nat) (w : World) (sv cv : Value) (n : Nat) (xs : List Int) (R : List (List Int)) : Prop where
 le : w0.heap.size ≤ H
 grown : w0.grownBy w none
 size : H + 5 ≤ w.heap.size
 f0 : w.cell? ⟨H, 0, none⟩ = some sv
 f1 : w.cell? ⟨H, 1, none⟩ = some cv
 xb : w.heap[H + 2]? = some (.cells (xs.map (Value.int .i64)).toArray 3 (0, 0))
 len : xs.length = n
 xc : w.cell? ⟨H + 3, 0, none⟩ = some (.slice (some ⟨H + 2, 0, none⟩) n n)
 gc : w.cell? ⟨H + 4, 0, none⟩ = some (go1Fn H)
 out : ∃ ov vs, w.heap[H + 1]? = some (.cells #[ov] 51 (0, 0)) ∧ w.ownsRow (H + 5) 22 1 ov R.length vs ∧ RowsAre w (H + 5) ov.ownBlock vs R
variable {w0 w w' : World} {H : Nat} {sv cv : Value} {n : Nat} {xs xs' : List Int} {R : List (List Int)}
theorem GoSt.turn (h : GoSt w0 H w sv cv n xs R) (hg : w.grownBy w' (some (H + 2))) (hb : w'.heap[H + 2]? = some (.cells (xs'.map (Value.int .i64)).toArray 3 (0, 0))) (hl : xs'.length = n) : GoSt w0 H w' sv cv n xs' R := by
 have hl0 := h.le
 have hs := h.size
 obtain ⟨ov, vs, h1, h2, h3⟩ := h.out
 refine ⟨h.le, gO h.grown hg (fun k hk => by cases hk; omega), Nat.le_trans h.size hg.size, hg.cell h.f0 (by simp), hg.cell h.f1 (by simp), hb, hl, hg.cell h.xc (by simp), hg.cell h.gc (by simp), ov, vs, ?_, ?_, ?_⟩
 · rw [hg.block (H + 1) (by omega) (by simp)]; exact h1
 · refine h2.kept hg ?_
   cases hb : ov.ownBlock with
   | none => exact .inl rfl
   | some g =>
     refine .inr fun e => ?_
     have := (h2.lt g hb).1
     cases e
     omega
 · exact h3.kept hg (.inr fun k hk => by cases hk; omega)
theorem GoSt.kept (h : GoSt w0 H w sv cv n xs R) (hg : w.grownBy w' none) : GoSt w0 H w' sv cv n xs R := by
 have hs := h.size
 refine h.turn (grownBy_any _ hg) ?_ h.len
 rw [hg.block (H + 2) (by omega) (by simp)]
 exact h.xb
theorem GoSt.set (h : GoSt w0 H w sv cv n xs R) (i : Nat) (v : Int) : GoSt w0 H (w.setCell ⟨H + 2, i, none⟩ (.int .i64 v)) sv cv n (xs.set i v) R := by
 refine h.turn ⟨rfl, rfl, rfl, by simp [World.setCell], fun k _ hk => Below.heap_setCell w ⟨H + 2, i, none⟩ _ k (by simpa using hk)⟩ ?_ (by simp [h.len])
 show (w.heap.modify (H + 2) _)[H + 2]? = _
 rw [Array.getElem?_modify, if_pos rfl, h.xb]
 simp [List.map_set]
theorem GoSt.push {w1 w2 w3 : World} {ov v' rv : Value} {vs : List Value} {pt : List Int} {g cap : Nat} (h : GoSt w0 H w sv cv n xs R) (h2 : w.ownsRow (H + 5) 22 1 ov R.length vs) (h3 : RowsAre w (H + 5) ov.ownBlock vs R)
  (k1 : w.grownBy w1 none) (hrv : w1.ownsRow (H + 5) 3 1 rv pt.length (pt.map (Value.int .i64))) (hrn : ∀ b, rv.ownBlock = some b → w.heap.size ≤ b) (k2 : w1.grownBy w2 ov.ownBlock) (ho : w2.ownsRow (H + 5) 22 1 v' (R.length + 1) (vs ++ [rv]))
  (hv : v' = .slice (some ⟨g, 0, none⟩) (R.length + 1) cap) (hg : ov.ownBlock = some g ∨ w1.heap.size ≤ g) (k3 : w2.grownBy w3 (some (H + 1))) (h4 : w3.heap[H + 1]? = some (.cells #[v'] 51 (0, 0))) : GoSt w0 H w3 sv cv n xs (R ++ [pt]) := by
 have hl0 := h.le
 have hs := h.size
 have hob : ∀ k, ov.ownBlock = some k → H + 5 ≤ k ∧ k < w.heap.size := h2.lt
 have hne : ∀ j, j < H + 5 → some j ≠ ov.ownBlock := fun j hj e => by have := hob j e.symm; omega
 have cellw : ∀ {a : Addr} {v : Value}, w.cell? a = some v → a.block < H + 5 → a.block ≠ H + 1 → w3.cell? a = some v := fun hc hlt hn =>
  k3.cell (k2.cell (k1.cell hc (by simp)) (hne _ hlt)) (by simpa using hn)
 have hgv : v'.ownBlock = some g := by rw [hv]; rfl
 refine ⟨h.le, ?_, Nat.le_trans h.size (Nat.le_trans k1.size (Nat.le_trans k2.size k3.size)), cellw h.f0 (by simp) (by simp), cellw h.f1 (by simp) (by simp), ?_, h.len, cellw h.xc (by simp) (by simp), cellw h.gc (by simp) (by simp), v', vs ++ [rv], h4, ?_, ?_⟩
 · refine gO (gO (gT h.grown k1) k2 (fun k hk => ?_)) k3 (fun k hk => by cases hk; omega)
   have := hob k hk
   omega
 · rw [k3.block (H + 2) (by have := k1.size; have := k2.size; omega) (by simp), k2.block (H + 2) (by have := k1.size; omega) (hne _ (by omega)), k1.block (H + 2) (by omega) (by simp)]
   exact h.xb
 · rw [List.length_append]
   refine ho.kept k3 (.inr fun e => ?_)
   rw [hgv] at e
   have := (ho.lt g hgv).1
   cases e
   omega
 · have hk : ∀ (r : Value) (p : List Int), w1.ownsRow (H + 5) 3 1 r p.length (p.map (Value.int .i64)) → (r.ownBlock = none ∨ r.ownBlock ≠ ov.ownBlock) → w3.ownsRow (H + 5) 3 1 r p.length (p.map (Value.int .i64)) := fun r p hr hn => by
    refine (hr.kept k2 hn).kept k3 ?_
    cases hb : r.ownBlock with
    | none => exact .inl rfl
    | some b =>
      refine .inr fun e => ?_
      have := (hr.lt b hb).1
      cases e
      omega
   refine ⟨by simp [h3.1], fun j p hj => ?_⟩
   by_cases hj' : j < R.length
   · rw [List.getElem?_append_left hj'] at hj
     obtain ⟨r, r1, r2, r3⟩ := h3.2 j p hj
     refine ⟨r, by rw [List.getElem?_append_left (by rw [h3.1]; exact hj')]; exact r1, hk r p (owns_kept r2 k1) r3, ?_⟩
     cases hb : r.ownBlock with
     | none => exact .inl rfl
     | some b =>
       refine .inr fun e => ?_
       rw [hgv] at e
       have e := Option.some.inj e
       rcases hg with hg | hg
       · rcases r3 with r3 | r3
         · rw [hb] at r3; cases r3
         · exact r3 (by rw [hb, hg, e])
       · have := (r2.lt b hb).2
         have := k1.size
         omega
   · have hj2 : j = R.length := by
      have := (List.getElem?_eq_some_iff.1 hj).1
      simp at this
      omega
     subst hj2
     simp at hj
     subst hj
     refine ⟨rv, by rw [← h3.1]; simp, hk rv pt hrv ?_, ?_⟩
     · cases hb : rv.ownBlock with
       | none => exact .inl rfl
       | some b =>
         refine .inr fun e => ?_
         have := hrn b hb
         have := hob b e.symm
         omega
     · cases hb : rv.ownBlock with
       | none => exact .inl rfl
       | some b =>
         refine .inr fun e => ?_
         rw [hgv] at e
         have e := Option.some.inj e
         have h5 := hrn b hb
         have h6 := (hrv.lt b hb).2
         rcases hg with hg | hg
         · have := hob g hg
           omega
         · omega
end Go.Proofs.YtgeklmigfhhpfaaGreatDoor
namespace Go.Proofs.YtgeklmigfhhpfaaGreatDoor
open Go.RowKit
attribute [local go_sem ↓] Go.wp_at_zero Go.wp_at_succ
variable {w0 : World} {H : Nat} {n : Nat}
theorem GoSt.ints {w : World} {sv cv : Value} {xs : List Int} {R : List (List Int)} (h : GoSt w0 H w sv cv n xs R) (hn : n ≤ 1000000) (hb : ∀ x ∈ xs, -9223372036854775808 ≤ x ∧ x ≤ 9223372036854775807) : IntsAt w (.slice (some ⟨H + 2, 0, none⟩) n n) xs := by
 obtain ⟨_, _, _, _, _, hxb, hl, _, _, _⟩ := h
 subst hl
 refine ⟨_, _, rfl, hn, fun j x hj => ⟨H + 2, 0, rfl, hb x (List.mem_of_getElem? hj), ?_⟩⟩
 obtain ⟨hj1, rfl⟩ := List.getElem?_eq_some_iff.1 hj
 simp [World.cell?, hxb, hj1]
def GoPost (w0 : World) (H : Nat) (sv cv : Value) (n : Nat) (pre : List Int) (R : List (List Int)) (e : Ending) (w' : World) : Prop :=
 e = .returned (.tuple #[]) ∧ ∃ xs', GoSt w0 H w' sv cv n xs' R ∧ xs'.take pre.length = pre ∧ (∀ x ∈ xs', -9223372036854775808 ≤ x ∧ x ≤ 9223372036854775807)
theorem Tryz.infoInts : (Tryz.prog.info? 22).map (fun i => (i.zero, i.size, i.bytes)) = some (some (.slice none 0 0), 1, 24) := by kernel_rfl
theorem own_one {w : World} {base : Nat} {e : TypeId} {size : Nat} {v : Value} {n : Nat} {xs : List Value} (h : w.ownsRow base e size v n xs) : v.oneCell' = true := by
 rcases h.2 with ⟨rfl, _⟩ | ⟨g, cap, cur, rfl, _⟩ <;> rfl
theorem out_kept {w w1 w2 : World} {ov : Value} {o x : Obj} {r : Nat} {vs : List Value} (h1 : w.heap[H + 1]? = some x) (h2 : w.ownsRow (H + 5) 22 1 ov r vs) (k : w.grownBy w1 none) (g : (w1.alloc o).grownBy w2 ov.ownBlock) :
  w2.heap[H + 1]? = some x := by
 have hlt := (Array.getElem?_eq_some_iff.1 h1).1
 have hs := k.size
 rw [g.block (H + 1) (by simp; omega) (fun e => by have := h2.lt _ e.symm; omega), Below.heap_alloc w1 o (H + 1) (by omega), k.block (H + 1) hlt (by simp)]
 exact h1
def CloneGo (w : World) (H : Nat) (n : Nat) (xs : List Int) (ov : Value) (e : Ending) (w' : World) : Prop :=
 ∃ rp rcap, e = .returned (.slice rp n rcap) ∧ Hid (w.grownBy w' none) ∧ Hid (w'.ownsRow (H + 5) 3 1 (.slice rp n rcap) n (xs.map (Value.int .i64))) ∧ Hid (∀ b, (Value.slice rp n rcap).ownBlock = some b → w.heap.size ≤ b) ∧
   w'.cell? ⟨H + 1, 0, none⟩ = some ov ∧ w'.cell? ⟨H + 3, 0, none⟩ = some (.slice (some ⟨H + 2, 0, none⟩) n n)
theorem clone_go {w W : World} {sv cv ov : Value} {xs : List Int} {R : List (List Int)} (h : GoSt w0 H w sv cv n xs R) (hn : n ≤ 1000) (ho : w.cell? ⟨H + 1, 0, none⟩ = some ov) (hg : w.grownBy W none) :
  Calls Tryz.prog 64 #[.slice (some ⟨H + 2, 0, none⟩) n n] W (CloneGo w H n xs ov) := by
 have hx := h.xc
 have hs := h.size
 obtain ⟨_, _, _, _, _, hxb, hl, _, _, _⟩ := h.kept hg
 subst hl
 refine (clone_any (H + 2) 0 xs.length xs W hn fun j x hj => ?_).mono ?_
 · obtain ⟨hj1, rfl⟩ := List.getElem?_eq_some_iff.1 hj
   simp [World.cell?, hxb, hj1]
 · rintro e w' ⟨v, rfl, hown, hgr⟩
   have hgw := gT hg hgr
   have hsz := hg.size
   obtain ⟨rp, rcap, rfl⟩ : ∃ rp rcap, v = .slice rp xs.length rcap := by
    rcases hown.2 with ⟨rfl, hz⟩ | ⟨g, cap, cur, rfl, _⟩
    · exact ⟨none, 0, by rw [hz]⟩
    · exact ⟨_, _, rfl⟩
   refine ⟨rp, rcap, rfl, hgw, ?_, fun b hb => Nat.le_trans hsz (hown.lt b hb).1, hgw.cell ho (by simp), hgw.cell hx (by simp)⟩
   obtain ⟨h1, h2⟩ := hown
   refine ⟨h1, ?_⟩
   rcases h2 with h2 | ⟨g, cap, cur, hv, hb, r⟩
   · exact .inl h2
   · exact .inr ⟨g, cap, cur, hv, by omega, r⟩
theorem GoSt.push_set {w w1 w2 : World} {sv cv ov rp : Value} {xs : List Int} {R : List (List Int)} {vs : List Value} {o : Obj} {g cap : Nat} (h : GoSt w0 H w sv cv n xs R) (h2 : w.ownsRow (H + 5) 22 1 ov R.length vs) (h3 : RowsAre w (H + 5) ov.ownBlock vs R)
  (k1 : w.grownBy w1 none) (hrv : w1.ownsRow (H + 5) 3 1 rp n (xs.map (Value.int .i64))) (hrn : ∀ b, rp.ownBlock = some b → w.heap.size ≤ b) (k2 : (w1.alloc o).grownBy w2 ov.ownBlock)
  (ho : w2.ownsRow (H + 5) 22 1 (.slice (some ⟨g, 0, none⟩) (R.length + 1) cap) (R.length + 1) (vs ++ [rp])) (hg : ov.ownBlock = some g ∨ g = w1.heap.size + 1) (hb : w2.heap[H + 1]? = some (.cells #[ov] 51 (0, 0))) :
  GoSt w0 H (w2.setCell ⟨H + 1, 0, none⟩ (.slice (some ⟨g, 0, none⟩) (R.length + 1) cap)) sv cv n xs (R ++ [xs]) := by
 have hl := h.len
 refine h.push h2 h3 k1 (by rw [hl]; exact hrv) hrn (gT (gA _ _ _) k2) ho rfl (by rcases hg with hg | hg; exact .inl hg; exact .inr (by omega)) ⟨rfl, rfl, rfl, by simp [World.setCell], fun k _ hk => Below.heap_setCell w2 ⟨H + 1, 0, none⟩ _ k (by simpa using hk)⟩ ?_
 show (w2.heap.modify (H + 1) _)[H + 1]? = _
 rw [Array.getElem?_modify, if_pos rfl, hb]
 simp
set_option maxRecDepth 100000 in
set_option maxHeartbeats 4000000 in
theorem go1_end (S : List SideD × List CondD) (p pc : Option Addr) (cap ccap : Nat) (w : World) (xs : List Int) (R : List (List Int)) (hS : SetAt w0 (.slice p S.1.length cap) (.slice pc S.2.length ccap) S) (hgood : setErr S = 0)
  (hn : n = S.1.length) (h : GoSt w0 H w (.slice p S.1.length cap) (.slice pc S.2.length ccap) n xs R) (hb : ∀ x ∈ xs, -9223372036854775808 ≤ x ∧ x ≤ 9223372036854775807) (hR : R.length ≤ 900000) :
  Calls Tryz.prog 62 #[.int .i64 n, .pointer (some ⟨H + 3, 0, none⟩), .pointer (some ⟨H, 0, none⟩), .pointer (some ⟨H + 1, 0, none⟩), .pointer (some ⟨H + 4, 0, none⟩)] w
   (GoPost w0 H (.slice p S.1.length cap) (.slice pc S.2.length ccap) n xs (R ++ pointsFrom S xs [])) := by
 have hn8 := (set_good hgood).1
 have HS := uH hS
 have HE := uH hgood
 have HG := uH h
 have HB := uH hb
 have HI := uH (h.ints (by omega) hb)
 have HL := uH (show xs.length = S.1.length by rw [h.len, hn])
 have hf0 := h.f0
 have hf1 := h.f1
 have hxc := h.xc
 have HW := uH h.grown
 have HN := uH hn
 have hn1 : n ≤ 1000 := by omega
 clear hS hgood h hb hn
 cases hp : pointB S xs
 · have HP := uH hp
   go_enter Tryz.func62, Tryz.ntmps62
   go_wp2_with (first | (go_at_call 63; refine (isPoint_any S _ _ _ xs _ (HS.out.kept HW.out) HI.out HE.out HL.out).mono ?_; rintro e w' ⟨rfl, hg1⟩; have G1 := uH hg1; clear hg1))
   exact bodyPost_ret (results_none rfl _ _ _) rfl ⟨rfl, xs, by simpa [pointsFrom, HP.out] using HG.out.kept G1.out, List.take_length, HB.out⟩
 · have HP := uH hp
   go_enter Tryz.func62, Tryz.ntmps62
   go_wp2_with (first | (go_at_call 63; refine (isPoint_any S _ _ _ xs _ (HS.out.kept HW.out) HI.out HE.out HL.out).mono ?_; rintro e w' ⟨rfl, hg1⟩; have G1 := uH hg1; clear hg1))
   have HK := uH (HG.out.kept G1.out)
   obtain ⟨ov, vs, h1, h2, h3⟩ := HK.out.out
   have hov : w'.cell? ⟨H + 1, 0, none⟩ = some ov := by simp [World.cell?, h1]
   have hxc' := HK.out.xc
   have HCl := uH (fun W hg => clone_go (W := W) HK.out hn1 hov hg)
   have H1 := uH h1
   have H2 := uH h2
   have H3 := uH h3
   have hs5 := HK.out.size
   clear h1 h2 h3
   obtain ⟨i0, hi, hz0, hz1, hz2⟩ := info_parts Tryz.infoInts
   go_region_law (first
    | (go_simp; go_at_call 64; refine (HCl.out _ ?_).mono ?_; (exact ⟨rfl, rfl, rfl, Nat.le_refl _, fun _ _ _ => rfl⟩); rintro e w1 ⟨rp, rcap, rfl, K1, KO, KB, c1, c2⟩; have c1' : (w1.alloc (.cells #[.slice rp n rcap] 22)).cell? ⟨H + 1, 0, none⟩ = some ov := (gA _ _ none).cell c1 (by simp))
    | (refine step_append_lies _ (by rfl) _ _ 51 (by rfl) (H + 5) 22 i0 (.slice none 0 0) 1 24 Tryz.underlying51 hi hz0 hz1 hz2 (by rfl) (by decide) ov R.length vs (by rfl) (World.ownsRow.alloc (owns_kept H2.out K1.out) _) ⟨w1.heap.size, 0, none⟩ 1 1 [.slice rp n rcap] (by rfl) (by rfl) news_at (by intro u hu; obtain rfl := List.mem_singleton.1 hu; exact own_one KO.out) (by decide) (by unfold maxLen; omega) (by omega) (by have := K1.out.size; simp; omega) (w1.heap.size + 1) (by simp) ?_; intro g ncap w2 hown2 hgrow2 hat _; have hb2 := out_kept H1.out H2.out K1.out hgrow2; have c3 : w2.cell? ⟨H + 1, 0, none⟩ = some ov := (by simp [World.cell?, hb2]); have f3 : w2.frozen? ⟨H + 1, 0, none⟩ = false := (by simp [World.frozen?, hb2]); have B2 := uH hb2; have O2 := uH hown2; have G2 := uH hgrow2; have A2 := uH hat; clear hb2 hown2 hgrow2 hat))
   all_goals
    go_wp2
    have hpt : pointsFrom S xs [] = [xs] := by simp [pointsFrom, HP.out]
    rw [hpt]
    exact bodyPost_ret (results_none rfl _ _ _) rfl ⟨rfl, xs, GoSt.push_set HK.out H2.out H3.out K1.out KO.out KB.out G2.out O2.out A2.out B2.out, List.take_length, HB.out⟩
end Go.Proofs.YtgeklmigfhhpfaaGreatDoor
namespace Go.Proofs.YtgeklmigfhhpfaaGreatDoor
open Go.RowKit
attribute [local go_sem ↓] Go.wp_at_zero Go.wp_at_succ
variable {w0 : World} {H : Nat} {n : Nat}
def GoGives (w0 : World) (H n : Nat) (S : List SideD × List CondD) (sv cv : Value) (rest : List SideD) : Prop :=
 ∀ (i : Nat) (w : World) (xs : List Int) (R : List (List Int)), S.1.drop i = rest → i ≤ n → GoSt w0 H w sv cv n xs R → (∀ x ∈ xs, -9223372036854775808 ≤ x ∧ x ≤ 9223372036854775807) →
   R.length + (pointsFrom S (xs.take i) rest).length ≤ 900000 →
   Calls Tryz.prog 62 #[.int .i64 i, .pointer (some ⟨H + 3, 0, none⟩), .pointer (some ⟨H, 0, none⟩), .pointer (some ⟨H + 1, 0, none⟩), .pointer (some ⟨H + 4, 0, none⟩)] w
    (GoPost w0 H sv cv n (xs.take i) (R ++ pointsFrom S (xs.take i) rest))
theorem goGives_end (S : List SideD × List CondD) (p pc : Option Addr) (cap ccap : Nat) (hS : SetAt w0 (.slice p S.1.length cap) (.slice pc S.2.length ccap) S) (hgood : setErr S = 0) (hn : n = S.1.length) :
  GoGives w0 H n S (.slice p S.1.length cap) (.slice pc S.2.length ccap) [] := by
 intro i w xs R hd hi h hb hR
 have hi' : i = n := by
  have := congrArg List.length hd
  simp at this
  omega
 subst hi'
 have ht : xs.take i = xs := List.take_of_length_le (by rw [h.len]; omega)
 rw [ht] at hR ⊢
 exact go1_end S p pc cap ccap w xs R hS hgood hn h hb (by omega)
theorem GoSt.cell {w : World} {sv cv : Value} {xs : List Int} {R : List (List Int)} (h : GoSt w0 H w sv cv n xs R) {i : Nat} {x : Int} (hx : xs[i]? = some x) : w.cell? ⟨H + 2, i, none⟩ = some (.int .i64 x) := by
 obtain ⟨hi, rfl⟩ := List.getElem?_eq_some_iff.1 hx
 simp [World.cell?, h.xb, hi]
theorem GoSt.free {w : World} {sv cv : Value} {xs : List Int} {R : List (List Int)} (h : GoSt w0 H w sv cv n xs R) (i : Nat) : w.frozen? ⟨H + 2, i, none⟩ = false := by
 simp [World.frozen?, h.xb]
theorem rangeI_add (lo : Int) (a b : Nat) : rangeI lo (a + b) = rangeI lo a ++ rangeI (lo + (a : Int)) b := by
 unfold rangeI
 rw [List.range_add, List.map_append, List.map_map]
 congr 1
 refine List.map_congr_left fun k _ => ?_
 simp only [Function.comp]
 omega
theorem flatMap_room (F : Int → List (List Int)) (lo : Int) {m cnt : Nat} (h : m < cnt) : ((rangeI lo m).flatMap F).length + (F (lo + (m : Int))).length ≤ ((rangeI lo cnt).flatMap F).length := by
 obtain ⟨k, rfl⟩ : ∃ k, cnt = (m + 1) + k := ⟨cnt - (m + 1), by omega⟩
 rw [rangeI_add lo (m + 1) k, rangeI_succ, List.flatMap_append, List.flatMap_append, List.length_append, List.length_append]
 simp
theorem take_succ_of {xs pre : List Int} {i : Nat} {v : Int} (h : xs.take i = pre) (hv : xs[i]? = some v) : xs.take (i + 1) = pre ++ [v] := by
 rw [List.take_add_one, h, hv]
 rfl
theorem get_of_take {x2 pre : List Int} {i : Nat} {v : Int} (h : x2.take (pre ++ [v]).length = pre ++ [v]) (hl : pre.length = i) : x2[i]? = some v := by
 subst hl
 have h1 : (x2.take (pre ++ [v]).length)[pre.length]? = some v := by rw [h]; simp
 rwa [List.getElem?_take_of_lt (by simp)] at h1
theorem take_of_take {x2 pre : List Int} {v : Int} (h : x2.take (pre ++ [v]).length = pre ++ [v]) : x2.take pre.length = pre := by
 have h1 := congrArg (List.take pre.length) h
 rw [List.take_take, List.take_left] at h1
 rwa [Nat.min_eq_left (by simp)] at h1
theorem take_set (xs : List Int) (i : Nat) (v : Int) : (xs.set i v).take i = xs.take i := by
 rw [List.take_set, List.set_eq_of_length_le (by simp; omega)]
theorem gS (w : World) (B i : Nat) (v : Value) : w.grownBy (w.setCell ⟨B, i, none⟩ v) (some B) :=
 ⟨rfl, rfl, rfl, by simp [World.setCell], fun k _ hk => Below.heap_setCell w ⟨B, i, none⟩ _ k (by simpa using hk)⟩
set_option maxRecDepth 100000 in
set_option maxHeartbeats 4000000 in
theorem goGives_step (S : List SideD × List CondD) (p pc : Option Addr) (cap ccap : Nat) (hS : SetAt w0 (.slice p S.1.length cap) (.slice pc S.2.length ccap) S) (hgood : setErr S = 0) (hne : emptyB S.1 = false) (hn : n = S.1.length) (s : SideD) (r : List SideD)
  (ih : GoGives w0 H n S (.slice p S.1.length cap) (.slice pc S.2.length ccap) r) : GoGives w0 H n S (.slice p S.1.length cap) (.slice pc S.2.length ccap) (s :: r) := by
 intro i w xs R hd hi h hb hR
 have hi2 : i < S.1.length := by
  have := congrArg List.length hd
  simp at this
  omega
 have hd2 : S.1.drop (i + 1) = r := by
  have := List.drop_eq_getElem_cons hi2
  rw [hd] at this
  exact (List.cons.inj this).2.symm
 have hs0 : S.1[i]? = some s := by
  have := List.drop_eq_getElem_cons hi2
  rw [hd] at this
  rw [List.getElem?_eq_getElem hi2, (List.cons.inj this).1]
 have hmem : s ∈ S.1 := List.mem_of_getElem? hs0
 obtain ⟨r1, r2, r3, r4⟩ := side_range (sides_good [] (set_good hgood).2.1 s hmem).2
 have r5 := not_empty hne hmem
 have hn8 := (set_good hgood).1
 obtain ⟨⟨p', cap', hsv, ⟨hl, _⟩, hc⟩, _⟩ := id hS
 obtain ⟨rfl, _, rfl⟩ := Value.slice.inj hsv
 obtain ⟨b, off, rfl, h3, ⟨h4, h4'⟩, ⟨h5, h5'⟩, h6, h7, h8⟩ := hc i s hs0
 have hbH : b < H := Nat.lt_of_lt_of_le (World.block_lt_of_cell? w0 _ h6) h.le
 have hlow := h.grown.cell h7 (by simp)
 have hxi : i < xs.length := by rw [h.len, hn]; exact hi2
 have hcx := h.cell (List.getElem?_eq_getElem hxi)
 have hfx := h.free i
 have hf0 := h.f0
 have hxc := h.xc
 have hin : ((i : Int) == (n : Int)) = false := by
  rw [Bool.eq_false_iff]
  intro e
  simp at e
  omega
 have hin2 : i < n := by omega
 have hiI : (0 : Int) ≤ (i : Int) := by omega
 have hiI2 : (i : Int) < (S.1.length : Int) := by omega
 have hiI3 : (i : Int) < (n : Int) := by omega
 have hk := uH (fun v => And.intro ((gS w (H + 2) i v).cell hf0 (by simp)) (And.intro ((gS w (H + 2) i v).cell hxc (by simp)) ((gS w (H + 2) i v).cell hlow (by simp; omega))))
 generalize hlo : s.2.1 = lo at *
 generalize hhi : s.2.2 = hi' at *
 have HG := uH h
 have HIH := uH ih
 have HD := uH hd2
 have HB := uH hb
 have HR := uH hR
 have H8 := uH h8
 have HLO := uH hlo
 have HHI := uH hhi
 have HN := uH hn
 clear h ih hd hd2 hb hR h8 hc hS hsv hs0 h3 h6 h7 hlo hhi hn hgood hne hmem hl hi2
 go_enter Tryz.func62, Tryz.ntmps62
 go_wp2
 go_region_held3 (fun W => W.cell? ⟨H, 0, none⟩ = some (.slice (some ⟨b, off, none⟩) S.1.length cap) ∧ W.cell? ⟨H + 3, 0, none⟩ = some (.slice (some ⟨H + 2, 0, none⟩) n n) ∧ W.cell? ⟨b, off + i * 3 + 1, none⟩ = some (.int .i64 lo)) (first | exact hk.out _ | go_keep) (fail)
 go_wp2
 go_loopg [] ((hi' - lo + 1).toNat) (fun g wr => ∃ (m : Nat) (xr : List Int), m + g = (hi' - lo + 1).toNat ∧ Hid (GoSt w0 H wr (.slice (some ⟨b, off, none⟩) S.1.length cap) (.slice pc S.2.length ccap) n xr (R ++ (rangeI lo m).flatMap (fun v => pointsFrom S (xs.take i ++ [v]) r))) ∧
  Hid (xr.take i = xs.take i) ∧ Hid (xr[i]? = some (lo + (m : Int))) ∧ Hid (∀ x ∈ xr, -9223372036854775808 ≤ x ∧ x ≤ 9223372036854775807))
 case atStart =>
  refine ⟨0, xs.set i lo, by omega, ?_, ?_, ?_, ?_⟩
  · have := (HG.out.set i lo).kept (w' := (w.setCell ⟨H + 2, i, none⟩ (.int .i64 lo)).drew) ⟨rfl, rfl, rfl, Nat.le_refl _, fun _ _ _ => rfl⟩
    change GoSt _ _ _ _ _ _ _ _
    simpa [rangeI] using this
  · exact take_set xs i lo
  · show _ = _
    simp [hxi]
  · intro x hx
    rcases List.mem_or_eq_of_mem_set hx with hx | rfl
    · exact HB.out x hx
    · exact ⟨by omega, by omega⟩
 case round =>
  obtain ⟨m, xr, hm, HS, HT, HX, HBr⟩ := hrel
  have hxc2 := HS.out.xc
  have hf02 := HS.out.f0
  have hcx2 := HS.out.cell HX.out
  have hh8 := HS.out.grown.cell H8.out (by simp)
  have hgc := HS.out.gc
  unfold go1Fn at hgc
  have hpre := take_succ_of HT.out HX.out
  have HPL := uH (show (xs.take i).length = i by simp; omega)
  by_cases hlt : m < (hi' - lo + 1).toNat
  · have hroom := flatMap_room (fun v => pointsFrom S (xs.take i ++ [v]) r) lo hlt
    have hRb : (R ++ (rangeI lo m).flatMap (fun v => pointsFrom S (xs.take i ++ [v]) r)).length + (pointsFrom S (xr.take (i + 1)) r).length ≤ 900000 := by
     have h0 := HR.out
     have e1 := HLO.out
     have e2 := HHI.out
     simp only [pointsFrom, e1, e2] at h0
     rw [hpre, List.length_append]
     omega
    have HC := uH (fun W (hg : wr.grownBy W none) => HIH.out (i + 1) W xr _ HD.out (by omega) (HS.out.kept hg) HBr.out hRb)
    have HPre := uH hpre
    have hle : lo + (m : Int) ≤ hi' := by omega
    clear hroom hRb hpre
    go_wp2
    go_quiet (fail)
    go_wp2_with (first | (go_at_call 62; refine (HC.out _ (grownBy_drewN _ _ _)).mono ?_; rintro e w2 ⟨rfl, x2, h2, ht2, hb2⟩; have T2 := uH ht2; have hcx3 := h2.cell (i := i) (x := lo + (m : Int)) (by have h := T2.out; rw [HPre.out] at h; exact get_of_take h HPL.out); have hxc3 := h2.xc; have hf3 := h2.free i; have S2 := uH h2; have B2 := uH hb2; clear h2 ht2 hb2))
    go_roundg (gk - 1)
    case rel =>
     have t2 := T2.out
     have s2 := S2.out
     rw [HPre.out] at t2 s2
     refine ⟨m + 1, x2.set i (lo + ((m + 1 : Nat) : Int)), by omega, ?_, ?_, ?_, ?_⟩
     · have h3 := s2.set i (lo + (m : Int) + 1)
       rw [show lo + (m : Int) + 1 = lo + ((m + 1 : Nat) : Int) by omega] at h3
       rw [rangeI_succ, List.flatMap_append]
       change GoSt _ _ _ _ _ _ _ _
       rw [show lo + (m : Int) + 1 = lo + ((m + 1 : Nat) : Int) by omega]
       simpa [List.append_assoc] using h3
     · show _ = _
       rw [take_set]
       have := take_of_take t2
       rwa [HPL.out] at this
     · show _ = _
       rw [List.getElem?_set_self (by have := s2.len; omega)]
     · intro x hx
       rcases List.mem_or_eq_of_mem_set hx with hx | rfl
       · exact B2.out x hx
       · exact ⟨by omega, by omega⟩
    case measure => omega
  · have hle : hi' < lo + (m : Int) := by omega
    go_wp2
    go_quiet (fail)
    go_wp2
    have hcnt : m = (hi' - lo + 1).toNat := by omega
    have e1 := HLO.out
    have e2 := HHI.out
    refine bodyPost_end (results_none rfl _ _ _) rfl ⟨rfl, xr, ?_, by rw [HPL.out]; exact HT.out, HBr.out⟩
    have h3 := HS.out.kept (grownBy_drewN _ nq none)
    simp only [pointsFrom, e1, e2]
    rw [← hcnt]
    exact h3
end Go.Proofs.YtgeklmigfhhpfaaGreatDoor
namespace Go.Proofs.YtgeklmigfhhpfaaGreatDoor
open Go.RowKit
theorem Tryz.infoForm1 : (Tryz.prog.info? 35).map (·.size) = some 2 := by kernel_rfl
def VarForm (x : ByteArray) (w : World) (e : Ending) (w' : World) : Prop :=
 ∃ p cap, e = .returned (.agg #[.int .i64 0, .slice p 1 cap]) ∧ TermsAt w' (.slice p 1 cap) [(x, 1)] ∧ w.grownBy w' none
theorem terms_one {w : World} {b cap : Nat} {x : ByteArray} {z : Int} (hx : x.size ≤ maxLen) (hz : -9223372036854775808 ≤ z ∧ z ≤ 9223372036854775807)
  (h0 : w.cell? ⟨b, 0, none⟩ = some (.string x)) (h1 : w.cell? ⟨b, 1, none⟩ = some (.int .i64 z)) : TermsAt w (.slice (some ⟨b, 0, none⟩) 1 cap) [(x, z)] := by
 refine ⟨_, cap, rfl, by simp [maxLen], fun j t hj => ?_⟩
 cases j with
 | zero =>
   simp at hj
   subst hj
   exact ⟨b, 0, rfl, hx, hz.1, hz.2, by simpa using h0, by simpa using h1⟩
 | succ j => simp at hj
def varWorld (x : ByteArray) (w : World) : World :=
 ((w.alloc (.cells #[.int .i64 0, .slice (some ⟨w.heap.size + 1, 0, none⟩) 1 1] 35)).alloc (.cells #[.string x, .int .i64 1] 65))
set_option maxHeartbeats 1000000 in
theorem variable_any (x : ByteArray) (w : World) (hx : x.size ≤ maxLen) :
  Calls Tryz.prog 162 #[.string x] w (VarForm x w) := by
 go_enter Tryz.func162, Tryz.ntmps162
 go_wp2
 have hg : w.grownBy (varWorld x w) none := gT (gA _ _ _) (gA _ _ _)
 have h1 : (varWorld x w).heap[w.heap.size]? = some (.cells #[.int .i64 0, .slice (some ⟨w.heap.size + 1, 0, none⟩) 1 1] 35 (0, 0)) := by
  show ((w.heap.push _).push _)[w.heap.size]? = _
  simp only [Array.getElem?_push, Array.size_push]
  rw [if_neg (by simp), if_pos trivial]
 have h2 : (varWorld x w).heap[w.heap.size + 1]? = some (.cells #[.string x, .int .i64 1] 65 (0, 0)) := by
  show ((w.heap.push _).push _)[w.heap.size + 1]? = _
  simp only [Array.getElem?_push, Array.size_push]
  rw [if_pos trivial]
 change bodyPost _ _ _ _ _ (varWorld x w)
 exact bodyPost_ret (results_cell_row rfl _ _ w.heap.size _ _ _ _ rfl h1 Tryz.underlying35 rfl Tryz.infoForm1) rfl
  ⟨some ⟨w.heap.size + 1, 0, none⟩, 1, rfl, terms_one hx ⟨by omega, by omega⟩ (by simp [World.cell?, h2]) (by simp [World.cell?, h2]), hg⟩
theorem checkForm_any (c : Int) (ts : List (ByteArray × Int)) (tv : Value) (w : World) (ht : TermsAt w tv ts) :
  Calls Tryz.prog 108 #[.agg #[.int .i64 c, tv]] w (Gives (.int .i64 (formErr c ts)) w) := by
 obtain ⟨p, cap, rfl, hl, hc⟩ := ht
 exact checkForm_at c ts p cap w hl hc
theorem varErr (x : ByteArray) : (formErr 0 [(x, 1)] == 0) = nameB x := by
 cases h : nameB x
 · simp [formErr, inB, termsErr, h]
 · simp [formErr, inB, termsErr, h, coefBad, leB_empty h]
set_option maxHeartbeats 1000000 in
theorem affName_any (x : ByteArray) (w : World) (hx : x.size ≤ maxLen) :
  Calls Tryz.prog 129 #[.string x] w (Gives (.bool (nameB x)) w) := by
 have HE := uH (varErr x)
 go_enter Tryz.func129, Tryz.ntmps129
 go_wp2_with (first
  | (go_at_call 162; refine (variable_any x w hx).mono ?_; rintro e w1 ⟨p, cap, rfl, ht, hg⟩; have HT := uH ht; have HG := uH hg; clear ht hg)
  | (go_at_call 108; refine (checkForm_any 0 [(x, 1)] (.slice p 1 cap) w1 HT.out).mono ?_; rintro e w2 ⟨rfl, hg⟩; have HG2 := uH hg; clear hg))
 go_ret
 exact ⟨ret_bool HE.out, gT HG.out HG2.out⟩
set_option maxHeartbeats 1000000 in
theorem affForm_any (c : Int) (ts : List (ByteArray × Int)) (l : List SideD) (tv sv : Value) (w : World) (ht : TermsAt w tv ts) (hs : SidesAt w sv l) :
  Calls Tryz.prog 55 #[.agg #[.int .i64 c, tv], sv] w (Gives (.int .i64 (aroundErr (namesOf l) (c, ts))) w) := by
 obtain ⟨p, cap, rfl, hl, hc⟩ := ht
 have H := uH hc
 have HN := uH hs
 have hl' := hl
 unfold maxLen at hl'
 have HT : Hid (TermsAt w (.slice p ts.length cap) ts) := ⟨p, cap, rfl, hl, hc⟩
 clear hc hs
 cases hf : (formErr c ts == 0)
 · have hf' : (formErr c ts == 0) = false := hf
   have hf2 : (formErr c ts != 0) = true := by simp [bne, hf]
   go_enter Tryz.func55, Tryz.ntmps55
   go_wp2_with (first | (go_at_call 108; refine (checkForm_any c ts (.slice p ts.length cap) _ (HT.out.kept (gA _ _ _))).mono ?_; rintro e w' ⟨rfl, hg1⟩; have G1 := uH hg1; clear hg1))
   go_ret
   exact ⟨ret_i64 (by simp only [aroundErr, hf']; rfl), gT (gA _ _ _) G1.out⟩
 · have hf' := uH hf
   have hf2 : (formErr c ts != 0) = false := by simp [bne, hf]
   clear hf
   go_enter Tryz.func55, Tryz.ntmps55
   go_wp2_with (first | (go_at_call 108; refine (checkForm_any c ts (.slice p ts.length cap) _ (HT.out.kept (gA _ _ _))).mono ?_; rintro e w' ⟨rfl, hg1⟩; have q1 : w'.cell? ⟨w.heap.size, 1, none⟩ = some (.slice p ts.length cap) := hg1.cell (by simp) (by simp); have G1 := uH hg1; clear hg1))
   have HW : Hid (w.grownBy w' none) := gT (gA _ _ _) G1.out
   have HA := uH (show aroundErr (namesOf l) (c, ts) = if termsIn (namesOf l) ts then 0 else 16 by simp only [aroundErr, hf'.out]; rfl)
   clear G1 q1 hf2 hf'
   go_loopw [16] (fun i wr => ∃ k : Nat, k ≤ ts.length ∧ i = .int .i64 k ∧ Hid (termsIn (namesOf l) (ts.take k) = true) ∧ Hid (w.grownBy wr none)) (fun i _ => ts.length - (intOf i).toNat)
   case atStart => exact ⟨0, Nat.zero_le _, rfl, rfl, HW⟩
   case round =>
    obtain ⟨k, hk, rfl, HR, HG⟩ := hrel
    by_cases hlt : k < ts.length
    · have h0 := List.getElem?_eq_getElem hlt
      obtain ⟨b, off, rfl, h3, h4, h5, h6, h7⟩ := (H.out k _ h0).kept HG.out
      have HS := uH (termsIn_snoc (names := namesOf l) h0)
      have HT' := fun h => termsIn_stop (names := namesOf l) h0 h
      have HF := uH (firstI_none (sameName (ts[k]).1) l)
      have HSN := uH (sameName_any (ts[k]).1 l)
      generalize hn : (ts[k]).1 = n at *
      generalize hz : (ts[k]).2 = z at *
      have HT' := uH HT'
      clear h0 hn hz
      go_wp2_with (first | (go_at_call 105; refine (placeOf_any n sv l _ (HN.out.kept (gT HG.out (gA _ _ _)))).mono ?_; rintro e w'' ⟨rfl, hg2⟩; have G2 := uH hg2; clear hg2))
      · have he : containsB (namesOf l) n = false := by
         have h := HF.out
         rw [HSN.out, show (firstI (sameName n) l == -1) = true by assumption] at h
         simpa using h.symm
        go_ret
        exact ⟨ret_i64 (by rw [HA.out, HT'.out he]; rfl), gT HG.out (gT (gA _ _ _) G2.out)⟩
      · have he : containsB (namesOf l) n = true := by
         have h := HF.out
         rw [HSN.out, show (firstI (sameName n) l == -1) = false by assumption] at h
         simpa using h.symm
        go_roundw
        case rel => exact ⟨k + 1, by omega, by go_num, by show _ = _; rw [HS.out, HR.out, he]; rfl, gT HG.out (gT (gA _ _ _) G2.out)⟩
        case measure => simp [intOf]; omega
    · obtain rfl : k = ts.length := by omega
      go_wp2
      go_ret
      exact ⟨ret_i64 (by rw [HA.out, ← List.take_length (l := ts), HR.out]; rfl), HG.out⟩
set_option maxHeartbeats 1000000 in
theorem isLarge_any (l : List SideD) (sv : Value) (w : World) (hs : SidesAt w sv l) (hgood : ∀ s ∈ l, sideBad s.2.1 s.2.2 = false) :
  Calls Tryz.prog 131 #[sv] w (Gives (.bool (!emptyB l && boxOver 1 l)) w) := by
 obtain ⟨p, cap, rfl, ⟨hl, hlc⟩, hc⟩ := hs
 have H := uH hc
 have HG0 := uH hgood
 have HSd : Hid (SidesAt w (.slice p l.length cap) l) := ⟨p, cap, rfl, ⟨hl, hlc⟩, hc⟩
 clear hc hgood
 cases he : emptyB l
 · have HNE := uH he
   clear he
   go_enter Tryz.func131, Tryz.ntmps131
   go_wp2_with (go_at_call 97; refine (isEmpty_any _ l _ HSd.out).mono ?_; rintro e w1 ⟨rfl, hg1⟩; rw [HNE.out]; have G1 := uH hg1; clear hg1)
   go_loopw [3, 10] (fun q i wr => ∃ (k : Nat) (z : Int), k ≤ l.length ∧ i = .int .i64 k ∧ q = .int .i64 z ∧ 0 ≤ z ∧ z ≤ 200000 ∧ Hid (boxOver z (l.drop k) = boxOver 1 l) ∧ Hid (w.grownBy wr none)) (fun _ i _ => l.length - (intOf i).toNat)
   case atStart => exact ⟨0, 1, Nat.zero_le _, rfl, rfl, by omega, by omega, rfl, G1.out⟩
   case round =>
    obtain ⟨k, q, hk, rfl, rfl, hq0, hq1, HR, HGC⟩ := hrel
    by_cases hlt : k < l.length
    · have h0 := List.getElem?_eq_getElem hlt
      obtain ⟨b, off, rfl, h3, ⟨h4, h4'⟩, ⟨h5, h5'⟩, h6, h7, h8⟩ := (H.out k _ h0).kept HGC.out
      have HS := uH (boxOver_drop q h0)
      obtain ⟨r1, r2, r3, r4⟩ := side_range (HG0.out _ (List.getElem_mem hlt))
      have r5 := not_empty HNE.out (List.getElem_mem hlt)
      generalize hn : (l[k]).1 = n at *
      generalize hlo : (l[k]).2.1 = lo at *
      generalize hhi : (l[k]).2.2 = hi' at *
      clear h0 hn hlo hhi
      have m1 : 0 ≤ q * (hi' - lo + 1) := Int.mul_nonneg hq0 (by omega)
      have m2 : q * (hi' - lo + 1) ≤ 200000 * 2000001 := Int.mul_le_mul hq1 (by omega) (by omega) (by omega)
      go_wp2
      · have he : 200000 < q * (hi' - lo + 1) := by assumption
        go_ret
        exact ⟨ret_bool (by rw [← HR.out, HS.out, if_pos he]; rfl), gT HGC.out (gA _ _ _)⟩
      · have he : ¬ 200000 < q * (hi' - lo + 1) := by omega
        have he' : q * (hi' - lo + 1) ≤ 200000 := by omega
        go_roundw
        case rel => exact ⟨k + 1, _, by omega, by go_num, rfl, m1, he', by show _ = _; rw [← HR.out, HS.out, if_neg he], gT HGC.out (gA _ _ _)⟩
        case measure => simp [intOf]; omega
    · obtain rfl : k = l.length := by omega
      go_wp2
      go_ret
      exact ⟨ret_bool (by rw [← HR.out]; simp [boxOver]), HGC.out⟩
 · have HNE := uH he
   clear he
   go_enter Tryz.func131, Tryz.ntmps131
   go_wp2_with (go_at_call 97; refine (isEmpty_any _ l _ HSd.out).mono ?_; rintro e w1 ⟨rfl, hg1⟩; rw [HNE.out]; have G1 := uH hg1; clear hg1)
   go_ret
   exact ⟨rfl, G1.out⟩
end Go.Proofs.YtgeklmigfhhpfaaGreatDoor
