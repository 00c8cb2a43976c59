/-
 PointsIn's recursion: its end, and its step.
-/
import Derived.Test.YtjgddagladmgoaaGo1
import Derived.Deep.AppendLies
import Derived.Deep.RegionLaw
namespace Go.Proofs.Ytjgddagladmgoaa
open Go.RowKit
attribute [local go_sem ↓] Go.wp_at_zero Go.wp_at_succ

variable {w0 : World} {H : Nat} {n : Nat}

theorem GoSt.ints {w : World} {sv cv : Value} {xs : List Int} {R : List (List Int)} (h : GoSt w0 H w sv cv n xs R) (hn : n ≤ 1000000) (hb : ∀ x ∈ xs, -9223372036854775808 ≤ x ∧ x ≤ 9223372036854775807) : IntsAt w (.slice (some ⟨H + 2, 0, none⟩) n n) xs := by
  obtain ⟨_, _, _, _, _, hxb, hl, _, _, _⟩ := h
  subst hl
  refine ⟨_, _, rfl, hn, fun j x hj => ⟨H + 2, 0, rfl, hb x (List.mem_of_getElem? hj), ?_⟩⟩
  obtain ⟨hj1, rfl⟩ := List.getElem?_eq_some_iff.1 hj
  simp [World.cell?, hxb, hj1]

/-- What a call of the recursion leaves. -/
def GoPost (w0 : World) (H : Nat) (sv cv : Value) (n : Nat) (pre : List Int) (R : List (List Int)) (e : Ending) (w' : World) : Prop :=
  e = .returned (.tuple #[]) ∧ ∃ xs', GoSt w0 H w' sv cv n xs' R ∧ xs'.take pre.length = pre ∧ (∀ x ∈ xs', -9223372036854775808 ≤ x ∧ x ≤ 9223372036854775807)

theorem Try.infoInts : (Try.prog.info? 22).map (fun i => (i.zero, i.size, i.bytes)) = some (some (.slice none 0 0), 1, 24) := by kernel_rfl

theorem own_one {w : World} {base : Nat} {e : TypeId} {size : Nat} {v : Value} {n : Nat} {xs : List Value} (h : w.ownsRow base e size v n xs) : v.oneCell' = true := by
  rcases h.2 with ⟨rfl, _⟩ | ⟨g, cap, cur, rfl, _⟩ <;> rfl

theorem out_kept {w w1 w2 : World} {ov : Value} {o x : Obj} {r : Nat} {vs : List Value} (h1 : w.heap[H + 1]? = some x) (h2 : w.ownsRow (H + 5) 22 1 ov r vs) (k : w.grownBy w1 none) (g : (w1.alloc o).grownBy w2 ov.ownBlock) :
    w2.heap[H + 1]? = some x := by
  have hlt := (Array.getElem?_eq_some_iff.1 h1).1
  have hs := k.size
  rw [g.block (H + 1) (by simp; omega) (fun e => by have := h2.lt _ e.symm; omega), Below.heap_alloc w1 o (H + 1) (by omega), k.block (H + 1) hlt (by simp)]
  exact h1

/-- What a copy of the numbers leaves, in the midst of the recursion. -/
def CloneGo (w : World) (H : Nat) (n : Nat) (xs : List Int) (ov : Value) (e : Ending) (w' : World) : Prop :=
  ∃ rp rcap, e = .returned (.slice rp n rcap) ∧ Hid (w.grownBy w' none) ∧ Hid (w'.ownsRow (H + 5) 3 1 (.slice rp n rcap) n (xs.map (Value.int .i64))) ∧ Hid (∀ b, (Value.slice rp n rcap).ownBlock = some b → w.heap.size ≤ b) ∧
    w'.cell? ⟨H + 1, 0, none⟩ = some ov ∧ w'.cell? ⟨H + 3, 0, none⟩ = some (.slice (some ⟨H + 2, 0, none⟩) n n)

theorem clone_go {w W : World} {sv cv ov : Value} {xs : List Int} {R : List (List Int)} (h : GoSt w0 H w sv cv n xs R) (hn : n ≤ 1000) (ho : w.cell? ⟨H + 1, 0, none⟩ = some ov) (hg : w.grownBy W none) :
    Calls Try.prog 35 #[.slice (some ⟨H + 2, 0, none⟩) n n] W (CloneGo w H n xs ov) := by
  have hx := h.xc
  have hs := h.size
  obtain ⟨_, _, _, _, _, hxb, hl, _, _, _⟩ := h.kept hg
  subst hl
  refine (clone_any (H + 2) 0 xs.length xs W hn fun j x hj => ?_).mono ?_
  · obtain ⟨hj1, rfl⟩ := List.getElem?_eq_some_iff.1 hj
    simp [World.cell?, hxb, hj1]
  · rintro e w' ⟨v, rfl, hown, hgr⟩
    have hgw := grownBy_trans hg hgr
    have hsz := hg.size
    obtain ⟨rp, rcap, rfl⟩ : ∃ rp rcap, v = .slice rp xs.length rcap := by
      rcases hown.2 with ⟨rfl, hz⟩ | ⟨g, cap, cur, rfl, _⟩
      · exact ⟨none, 0, by rw [hz]⟩
      · exact ⟨_, _, rfl⟩
    refine ⟨rp, rcap, rfl, hgw, ?_, fun b hb => Nat.le_trans hsz (hown.lt b hb).1, hgw.cell ho (by simp), hgw.cell hx (by simp)⟩
    obtain ⟨h1, h2⟩ := hown
    refine ⟨h1, ?_⟩
    rcases h2 with h2 | ⟨g, cap, cur, hv, hb, r⟩
    · exact .inl h2
    · exact .inr ⟨g, cap, cur, hv, by omega, r⟩

theorem GoSt.push_set {w w1 w2 : World} {sv cv ov rp : Value} {xs : List Int} {R : List (List Int)} {vs : List Value} {o : Obj} {g cap : Nat} (h : GoSt w0 H w sv cv n xs R) (h2 : w.ownsRow (H + 5) 22 1 ov R.length vs) (h3 : RowsAre w (H + 5) ov.ownBlock vs R)
    (k1 : w.grownBy w1 none) (hrv : w1.ownsRow (H + 5) 3 1 rp n (xs.map (Value.int .i64))) (hrn : ∀ b, rp.ownBlock = some b → w.heap.size ≤ b) (k2 : (w1.alloc o).grownBy w2 ov.ownBlock)
    (ho : w2.ownsRow (H + 5) 22 1 (.slice (some ⟨g, 0, none⟩) (R.length + 1) cap) (R.length + 1) (vs ++ [rp])) (hg : ov.ownBlock = some g ∨ g = w1.heap.size + 1) (hb : w2.heap[H + 1]? = some (.cells #[ov] 38 (0, 0))) :
    GoSt w0 H (w2.setCell ⟨H + 1, 0, none⟩ (.slice (some ⟨g, 0, none⟩) (R.length + 1) cap)) sv cv n xs (R ++ [xs]) := by
  have hl := h.len
  refine h.push h2 h3 k1 (by rw [hl]; exact hrv) hrn (grownBy_trans (World.grownBy_alloc _ _ _) k2) ho rfl (by rcases hg with hg | hg; exact .inl hg; exact .inr (by omega)) ⟨rfl, rfl, rfl, by simp [World.setCell], fun k _ hk => Below.heap_setCell w2 ⟨H + 1, 0, none⟩ _ k (by simpa using hk)⟩ ?_
  show (w2.heap.modify (H + 1) _)[H + 1]? = _
  rw [Array.getElem?_modify, if_pos rfl, hb]
  simp

set_option maxRecDepth 100000 in
set_option maxHeartbeats 4000000 in
theorem go1_end (S : List SideD × List CondD) (p pc : Option Addr) (cap ccap : Nat) (w : World) (xs : List Int) (R : List (List Int)) (hS : SetAt w0 (.slice p S.1.length cap) (.slice pc S.2.length ccap) S) (hgood : setErr S = 0)
    (hn : n = S.1.length) (h : GoSt w0 H w (.slice p S.1.length cap) (.slice pc S.2.length ccap) n xs R) (hb : ∀ x ∈ xs, -9223372036854775808 ≤ x ∧ x ≤ 9223372036854775807) (hR : R.length ≤ 900000) :
    Calls Try.prog 39 #[.int .i64 n, .pointer (some ⟨H + 3, 0, none⟩), .pointer (some ⟨H, 0, none⟩), .pointer (some ⟨H + 1, 0, none⟩), .pointer (some ⟨H + 4, 0, none⟩)] w
      (GoPost w0 H (.slice p S.1.length cap) (.slice pc S.2.length ccap) n xs (R ++ pointsFrom S xs [])) := by
  have hn8 := (set_good hgood).1
  have HS := Lib.hid hS
  have HE := Lib.hid hgood
  have HG := Lib.hid h
  have HB := Lib.hid hb
  have HI := Lib.hid (h.ints (by omega) hb)
  have HL := Lib.hid (show xs.length = S.1.length by rw [h.len, hn])
  have hf0 := h.f0
  have hf1 := h.f1
  have hxc := h.xc
  have HW := Lib.hid h.grown
  have HN := Lib.hid hn
  have hn1 : n ≤ 1000 := by omega
  clear hS hgood h hb hn
  cases hp : pointB S xs
  · have HP := Lib.hid hp
    go_enter Try.func39, Try.ntmps39
    go_wp2_with (first | (go_at_call 38; refine (isPoint_any S _ _ _ xs _ (HS.out.kept HW.out) HI.out HE.out HL.out).mono ?_; rintro e w' ⟨rfl, hg1⟩; have G1 := Lib.hid hg1; clear hg1))
    exact bodyPost_ret (results_none rfl _ _ _) rfl ⟨rfl, xs, by simpa [pointsFrom, HP.out] using HG.out.kept G1.out, List.take_length, HB.out⟩
  · have HP := Lib.hid hp
    go_enter Try.func39, Try.ntmps39
    go_wp2_with (first | (go_at_call 38; refine (isPoint_any S _ _ _ xs _ (HS.out.kept HW.out) HI.out HE.out HL.out).mono ?_; rintro e w' ⟨rfl, hg1⟩; have G1 := Lib.hid hg1; clear hg1))
    have HK := Lib.hid (HG.out.kept G1.out)
    obtain ⟨ov, vs, h1, h2, h3⟩ := HK.out.out
    have hov : w'.cell? ⟨H + 1, 0, none⟩ = some ov := by simp [World.cell?, h1]
    have hxc' := HK.out.xc
    have HCl := Lib.hid (fun W hg => clone_go (W := W) HK.out hn1 hov hg)
    have H1 := Lib.hid h1
    have H2 := Lib.hid h2
    have H3 := Lib.hid h3
    have hs5 := HK.out.size
    clear h1 h2 h3
    obtain ⟨i0, hi, hz0, hz1, hz2⟩ := info_parts Try.infoInts
    go_region_law (first
      | (go_simp; go_at_call 35; refine (HCl.out _ ?_).mono ?_; (exact ⟨rfl, rfl, rfl, Nat.le_refl _, fun _ _ _ => rfl⟩); rintro e w1 ⟨rp, rcap, rfl, K1, KO, KB, c1, c2⟩; have c1' : (w1.alloc (.cells #[.slice rp n rcap] 22)).cell? ⟨H + 1, 0, none⟩ = some ov := (World.grownBy_alloc _ _ none).cell c1 (by simp))
      | (refine step_append_lies _ (by rfl) _ _ 38 (by rfl) (H + 5) 22 i0 (.slice none 0 0) 1 24 Try.underlying38 hi hz0 hz1 hz2 (by rfl) (by decide) ov R.length vs (by rfl) (World.ownsRow.alloc (owns_kept H2.out K1.out) _) ⟨w1.heap.size, 0, none⟩ 1 1 [.slice rp n rcap] (by rfl) (by rfl) news_at (by intro u hu; obtain rfl := List.mem_singleton.1 hu; exact own_one KO.out) (by decide) (by unfold maxLen; omega) (by omega) (by have := K1.out.size; simp; omega) (w1.heap.size + 1) (by simp) ?_; intro g ncap w2 hown2 hgrow2 hat _; have hb2 := out_kept H1.out H2.out K1.out hgrow2; have c3 : w2.cell? ⟨H + 1, 0, none⟩ = some ov := (by simp [World.cell?, hb2]); have f3 : w2.frozen? ⟨H + 1, 0, none⟩ = false := (by simp [World.frozen?, hb2]); have B2 := Lib.hid hb2; have O2 := Lib.hid hown2; have G2 := Lib.hid hgrow2; have A2 := Lib.hid hat; clear hb2 hown2 hgrow2 hat))
    all_goals
      go_wp2
      have hpt : pointsFrom S xs [] = [xs] := by simp [pointsFrom, HP.out]
      rw [hpt]
      exact bodyPost_ret (results_none rfl _ _ _) rfl ⟨rfl, xs, GoSt.push_set HK.out H2.out H3.out K1.out KO.out KB.out G2.out O2.out A2.out B2.out, List.take_length, HB.out⟩

end Go.Proofs.Ytjgddagladmgoaa
