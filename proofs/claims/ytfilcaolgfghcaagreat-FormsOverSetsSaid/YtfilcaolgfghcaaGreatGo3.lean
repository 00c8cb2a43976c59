/-
 PointsIn's recursion: its step.
-/
import Derived.Test.YtfilcaolgfghcaaGreatGo2
import Derived.Deep.LoopGhost
namespace Go.Proofs.YtfilcaolgfghcaaGreat
open Go.RowKit
attribute [local go_sem ↓] Go.wp_at_zero Go.wp_at_succ

variable {w0 : World} {H : Nat} {n : Nat}

/-- What the recursion does from a side on. -/
def GoGives (w0 : World) (H n : Nat) (S : List SideD × List CondD) (sv cv : Value) (rest : List SideD) : Prop :=
  ∀ (i : Nat) (w : World) (xs : List Int) (R : List (List Int)), S.1.drop i = rest → i ≤ n → GoSt w0 H w sv cv n xs R → (∀ x ∈ xs, -9223372036854775808 ≤ x ∧ x ≤ 9223372036854775807) →
    R.length + (pointsFrom S (xs.take i) rest).length ≤ 900000 →
    Calls Tryz.prog 85 #[.int .i64 i, .pointer (some ⟨H + 3, 0, none⟩), .pointer (some ⟨H, 0, none⟩), .pointer (some ⟨H + 1, 0, none⟩), .pointer (some ⟨H + 4, 0, none⟩)] w
      (GoPost w0 H sv cv n (xs.take i) (R ++ pointsFrom S (xs.take i) rest))

theorem goGives_end (S : List SideD × List CondD) (p pc : Option Addr) (cap ccap : Nat) (hS : SetAt w0 (.slice p S.1.length cap) (.slice pc S.2.length ccap) S) (hgood : setErr S = 0) (hn : n = S.1.length) :
    GoGives w0 H n S (.slice p S.1.length cap) (.slice pc S.2.length ccap) [] := by
  intro i w xs R hd hi h hb hR
  have hi' : i = n := by
    have := congrArg List.length hd
    simp at this
    omega
  subst hi'
  have ht : xs.take i = xs := List.take_of_length_le (by rw [h.len]; omega)
  rw [ht] at hR ⊢
  exact go1_end S p pc cap ccap w xs R hS hgood hn h hb (by omega)

/-- The numbers' cells. -/
theorem GoSt.cell {w : World} {sv cv : Value} {xs : List Int} {R : List (List Int)} (h : GoSt w0 H w sv cv n xs R) {i : Nat} {x : Int} (hx : xs[i]? = some x) : w.cell? ⟨H + 2, i, none⟩ = some (.int .i64 x) := by
  obtain ⟨hi, rfl⟩ := List.getElem?_eq_some_iff.1 hx
  simp [World.cell?, h.xb, hi]
theorem GoSt.free {w : World} {sv cv : Value} {xs : List Int} {R : List (List Int)} (h : GoSt w0 H w sv cv n xs R) (i : Nat) : w.frozen? ⟨H + 2, i, none⟩ = false := by
  simp [World.frozen?, h.xb]

theorem rangeI_add (lo : Int) (a b : Nat) : rangeI lo (a + b) = rangeI lo a ++ rangeI (lo + (a : Int)) b := by
  unfold rangeI
  rw [List.range_add, List.map_append, List.map_map]
  congr 1
  refine List.map_congr_left fun k _ => ?_
  simp only [Function.comp]
  omega
theorem flatMap_room (F : Int → List (List Int)) (lo : Int) {m cnt : Nat} (h : m < cnt) : ((rangeI lo m).flatMap F).length + (F (lo + (m : Int))).length ≤ ((rangeI lo cnt).flatMap F).length := by
  obtain ⟨k, rfl⟩ : ∃ k, cnt = (m + 1) + k := ⟨cnt - (m + 1), by omega⟩
  rw [rangeI_add lo (m + 1) k, rangeI_succ, List.flatMap_append, List.flatMap_append, List.length_append, List.length_append]
  simp
theorem take_succ_of {xs pre : List Int} {i : Nat} {v : Int} (h : xs.take i = pre) (hv : xs[i]? = some v) : xs.take (i + 1) = pre ++ [v] := by
  rw [List.take_add_one, h, hv]
  rfl

theorem get_of_take {x2 pre : List Int} {i : Nat} {v : Int} (h : x2.take (pre ++ [v]).length = pre ++ [v]) (hl : pre.length = i) : x2[i]? = some v := by
  subst hl
  have h1 : (x2.take (pre ++ [v]).length)[pre.length]? = some v := by rw [h]; simp
  rwa [List.getElem?_take_of_lt (by simp)] at h1
theorem take_of_take {x2 pre : List Int} {v : Int} (h : x2.take (pre ++ [v]).length = pre ++ [v]) : x2.take pre.length = pre := by
  have h1 := congrArg (List.take pre.length) h
  rw [List.take_take, List.take_left] at h1
  rwa [Nat.min_eq_left (by simp)] at h1

theorem take_set (xs : List Int) (i : Nat) (v : Int) : (xs.set i v).take i = xs.take i := by
  rw [List.take_set, List.set_eq_of_length_le (by simp; omega)]

theorem grown_set (w : World) (B i : Nat) (v : Value) : w.grownBy (w.setCell ⟨B, i, none⟩ v) (some B) :=
  ⟨rfl, rfl, rfl, by simp [World.setCell], fun k _ hk => Below.heap_setCell w ⟨B, i, none⟩ _ k (by simpa using hk)⟩

set_option maxRecDepth 100000 in
set_option maxHeartbeats 4000000 in
theorem goGives_step (S : List SideD × List CondD) (p pc : Option Addr) (cap ccap : Nat) (hS : SetAt w0 (.slice p S.1.length cap) (.slice pc S.2.length ccap) S) (hgood : setErr S = 0) (hne : emptyB S.1 = false) (hn : n = S.1.length) (s : SideD) (r : List SideD)
    (ih : GoGives w0 H n S (.slice p S.1.length cap) (.slice pc S.2.length ccap) r) : GoGives w0 H n S (.slice p S.1.length cap) (.slice pc S.2.length ccap) (s :: r) := by
  intro i w xs R hd hi h hb hR
  have hi2 : i < S.1.length := by
    have := congrArg List.length hd
    simp at this
    omega
  have hd2 : S.1.drop (i + 1) = r := by
    have := List.drop_eq_getElem_cons hi2
    rw [hd] at this
    exact (List.cons.inj this).2.symm
  have hs0 : S.1[i]? = some s := by
    have := List.drop_eq_getElem_cons hi2
    rw [hd] at this
    rw [List.getElem?_eq_getElem hi2, (List.cons.inj this).1]
  have hmem : s ∈ S.1 := List.mem_of_getElem? hs0
  obtain ⟨r1, r2, r3, r4⟩ := side_range (sides_good [] (set_good hgood).2.1 s hmem).2
  have r5 := not_empty hne hmem
  have hn8 := (set_good hgood).1
  obtain ⟨⟨p', cap', hsv, ⟨hl, _⟩, hc⟩, _⟩ := id hS
  obtain ⟨rfl, _, rfl⟩ := Value.slice.inj hsv
  obtain ⟨b, off, rfl, h3, ⟨h4, h4'⟩, ⟨h5, h5'⟩, h6, h7, h8⟩ := hc i s hs0
  have hbH : b < H := Nat.lt_of_lt_of_le (World.block_lt_of_cell? w0 _ h6) h.le
  have hlow := h.grown.cell h7 (by simp)
  have hxi : i < xs.length := by rw [h.len, hn]; exact hi2
  have hcx := h.cell (List.getElem?_eq_getElem hxi)
  have hfx := h.free i
  have hf0 := h.f0
  have hxc := h.xc
  have hin : ((i : Int) == (n : Int)) = false := by
    rw [Bool.eq_false_iff]
    intro e
    simp at e
    omega
  have hin2 : i < n := by omega
  have hiI : (0 : Int) ≤ (i : Int) := by omega
  have hiI2 : (i : Int) < (S.1.length : Int) := by omega
  have hiI3 : (i : Int) < (n : Int) := by omega
  have hk := Lib.hid (fun v => And.intro ((grown_set w (H + 2) i v).cell hf0 (by simp)) (And.intro ((grown_set w (H + 2) i v).cell hxc (by simp)) ((grown_set w (H + 2) i v).cell hlow (by simp; omega))))
  generalize hlo : s.2.1 = lo at *
  generalize hhi : s.2.2 = hi' at *
  have HG := Lib.hid h
  have HIH := Lib.hid ih
  have HD := Lib.hid hd2
  have HB := Lib.hid hb
  have HR := Lib.hid hR
  have H8 := Lib.hid h8
  have HLO := Lib.hid hlo
  have HHI := Lib.hid hhi
  have HN := Lib.hid hn
  clear h ih hd hd2 hb hR h8 hc hS hsv hs0 h3 h6 h7 hlo hhi hn hgood hne hmem hl hi2
  go_enter Tryz.func85, Tryz.ntmps85
  go_wp2
  go_region_held3 (fun W => W.cell? ⟨H, 0, none⟩ = some (.slice (some ⟨b, off, none⟩) S.1.length cap) ∧ W.cell? ⟨H + 3, 0, none⟩ = some (.slice (some ⟨H + 2, 0, none⟩) n n) ∧ W.cell? ⟨b, off + i * 3 + 1, none⟩ = some (.int .i64 lo)) (first | exact hk.out _ | go_keep) (fail)
  go_wp2
  go_loopg [] ((hi' - lo + 1).toNat) (fun g wr => ∃ (m : Nat) (xr : List Int), m + g = (hi' - lo + 1).toNat ∧ Hid (GoSt w0 H wr (.slice (some ⟨b, off, none⟩) S.1.length cap) (.slice pc S.2.length ccap) n xr (R ++ (rangeI lo m).flatMap (fun v => pointsFrom S (xs.take i ++ [v]) r))) ∧
    Hid (xr.take i = xs.take i) ∧ Hid (xr[i]? = some (lo + (m : Int))) ∧ Hid (∀ x ∈ xr, -9223372036854775808 ≤ x ∧ x ≤ 9223372036854775807))
  case atStart =>
    refine ⟨0, xs.set i lo, by omega, ?_, ?_, ?_, ?_⟩
    · have := (HG.out.set i lo).kept (w' := (w.setCell ⟨H + 2, i, none⟩ (.int .i64 lo)).drew) ⟨rfl, rfl, rfl, Nat.le_refl _, fun _ _ _ => rfl⟩
      change GoSt _ _ _ _ _ _ _ _
      simpa [rangeI] using this
    · exact take_set xs i lo
    · show _ = _
      simp [hxi]
    · intro x hx
      rcases List.mem_or_eq_of_mem_set hx with hx | rfl
      · exact HB.out x hx
      · exact ⟨by omega, by omega⟩
  case round =>
    obtain ⟨m, xr, hm, HS, HT, HX, HBr⟩ := hrel
    have hxc2 := HS.out.xc
    have hf02 := HS.out.f0
    have hcx2 := HS.out.cell HX.out
    have hh8 := HS.out.grown.cell H8.out (by simp)
    have hgc := HS.out.gc
    unfold go1Fn at hgc
    have hpre := take_succ_of HT.out HX.out
    have HPL := Lib.hid (show (xs.take i).length = i by simp; omega)
    by_cases hlt : m < (hi' - lo + 1).toNat
    · have hroom := flatMap_room (fun v => pointsFrom S (xs.take i ++ [v]) r) lo hlt
      have hRb : (R ++ (rangeI lo m).flatMap (fun v => pointsFrom S (xs.take i ++ [v]) r)).length + (pointsFrom S (xr.take (i + 1)) r).length ≤ 900000 := by
        have h0 := HR.out
        have e1 := HLO.out
        have e2 := HHI.out
        simp only [pointsFrom, e1, e2] at h0
        rw [hpre, List.length_append]
        omega
      have HC := Lib.hid (fun W (hg : wr.grownBy W none) => HIH.out (i + 1) W xr _ HD.out (by omega) (HS.out.kept hg) HBr.out hRb)
      have HPre := Lib.hid hpre
      have hle : lo + (m : Int) ≤ hi' := by omega
      clear hroom hRb hpre
      go_wp2
      go_quiet (fail)
      go_wp2_with (first | (go_at_call 85; refine (HC.out _ (grownBy_drewN _ _ _)).mono ?_; rintro e w2 ⟨rfl, x2, h2, ht2, hb2⟩; have T2 := Lib.hid ht2; have hcx3 := h2.cell (i := i) (x := lo + (m : Int)) (by have h := T2.out; rw [HPre.out] at h; exact get_of_take h HPL.out); have hxc3 := h2.xc; have hf3 := h2.free i; have S2 := Lib.hid h2; have B2 := Lib.hid hb2; clear h2 ht2 hb2))
      go_roundg (gk - 1)
      case rel =>
        have t2 := T2.out
        have s2 := S2.out
        rw [HPre.out] at t2 s2
        refine ⟨m + 1, x2.set i (lo + ((m + 1 : Nat) : Int)), by omega, ?_, ?_, ?_, ?_⟩
        · have h3 := s2.set i (lo + (m : Int) + 1)
          rw [show lo + (m : Int) + 1 = lo + ((m + 1 : Nat) : Int) by omega] at h3
          rw [rangeI_succ, List.flatMap_append]
          change GoSt _ _ _ _ _ _ _ _
          rw [show lo + (m : Int) + 1 = lo + ((m + 1 : Nat) : Int) by omega]
          simpa [List.append_assoc] using h3
        · show _ = _
          rw [take_set]
          have := take_of_take t2
          rwa [HPL.out] at this
        · show _ = _
          rw [List.getElem?_set_self (by have := s2.len; omega)]
        · intro x hx
          rcases List.mem_or_eq_of_mem_set hx with hx | rfl
          · exact B2.out x hx
          · exact ⟨by omega, by omega⟩
      case measure => omega
    · have hle : hi' < lo + (m : Int) := by omega
      go_wp2
      go_quiet (fail)
      go_wp2
      have hcnt : m = (hi' - lo + 1).toNat := by omega
      have e1 := HLO.out
      have e2 := HHI.out
      refine bodyPost_end (results_none rfl _ _ _) rfl ⟨rfl, xr, ?_, by rw [HPL.out]; exact HT.out, HBr.out⟩
      have h3 := HS.out.kept (grownBy_drewN _ nq none)
      simp only [pointsFrom, e1, e2]
      rw [← hcnt]
      exact h3

end Go.Proofs.YtfilcaolgfghcaaGreat
