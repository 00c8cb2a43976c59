/-
 PointsIn: all points of a set, in order.
-/
import Derived.Test.YtfilcaolgfghcaaGreatGo3
import Derived.Laws.EntriesVeiled
namespace Go.Proofs.YtfilcaolgfghcaaGreat
open Go.RowKit
attribute [local go_sem ↓] Go.wp_at_zero Go.wp_at_succ

/-- Lists of numbers, as they lie in memory. -/
def RowsAt (w : World) (v : Value) (R : List (List Int)) : Prop :=
  ∃ p cap, v = .slice p R.length cap ∧ R.length ≤ 1000000 ∧ ∀ j pt, R[j]? = some pt → ∃ b off rv, p = some ⟨b, off, none⟩ ∧ w.cell? ⟨b, off + j, none⟩ = some rv ∧ IntsAt w rv pt

theorem RowsAt.kept {w w' : World} {v : Value} {R : List (List Int)} (h : RowsAt w v R) (hg : w.grownBy w' none) : RowsAt w' v R := by
  obtain ⟨p, cap, hv, hl, hc⟩ := h
  refine ⟨p, cap, hv, hl, fun j pt hj => ?_⟩
  obtain ⟨b, off, rv, hp, h1, h2⟩ := hc j pt hj
  exact ⟨b, off, rv, hp, hg.cell h1 (by simp), h2.kept hg⟩

theorem ints_of_owns {w : World} {base : Nat} {e : TypeId} {v : Value} {xs : List Int} (h : w.ownsRow base e 1 v xs.length (xs.map (Value.int .i64))) (hl : xs.length ≤ 1000000) (hb : ∀ x ∈ xs, -9223372036854775808 ≤ x ∧ x ≤ 9223372036854775807) : IntsAt w v xs := by
  have hcells := fun g hg => World.ownsRow.cells (g := g) h hg
  rcases h.2 with ⟨rfl, hz⟩ | ⟨g, cap, cur, rfl, _⟩
  · exact ⟨none, 0, by rw [hz], hl, fun j s hj => by rw [List.length_eq_zero_iff.1 hz] at hj; simp at hj⟩
  · refine ⟨_, cap, rfl, hl, fun j s hj => ⟨g, 0, rfl, hb s (List.mem_of_getElem? hj), ?_⟩⟩
    have hadd : (⟨g, 0, none⟩ : Addr).add j = ⟨g, j, none⟩ := by unfold Addr.add; split <;> simp_all
    have := hcells g rfl j (.int .i64 s) (by simp [hj])
    rw [hadd] at this
    simpa using this

theorem rows_of_owns {w : World} {base : Nat} {e : TypeId} {ob : Option Nat} {v : Value} {vs : List Value} {R : List (List Int)} (h : w.ownsRow base e 1 v R.length vs) (hr : RowsAre w base ob vs R) (hl : R.length ≤ 1000000) (hl2 : ∀ pt ∈ R, pt.length ≤ 1000000)
    (hb : ∀ pt ∈ R, ∀ x ∈ pt, -9223372036854775808 ≤ x ∧ x ≤ 9223372036854775807) : RowsAt w v R := by
  have hcells := fun g hg => World.ownsRow.cells (g := g) h hg
  rcases h.2 with ⟨rfl, hz⟩ | ⟨g, cap, cur, rfl, _⟩
  · exact ⟨none, 0, by rw [hz], hl, fun j s hj => by rw [List.length_eq_zero_iff.1 hz] at hj; simp at hj⟩
  · refine ⟨_, cap, rfl, hl, fun j pt hj => ?_⟩
    obtain ⟨rv, h1, h2, _⟩ := hr.2 j pt hj
    have hadd : (⟨g, 0, none⟩ : Addr).add j = ⟨g, j, none⟩ := by unfold Addr.add; split <;> simp_all
    have := hcells g rfl j rv h1
    rw [hadd] at this
    have hm := List.mem_of_getElem? hj
    exact ⟨g, 0, rv, rfl, by simpa using this, ints_of_owns h2 (hl2 pt hm) (hb pt hm)⟩

theorem goGives_all {w0 : World} {H n : Nat} (S : List SideD × List CondD) (p pc : Option Addr) (cap ccap : Nat) (hS : SetAt w0 (.slice p S.1.length cap) (.slice pc S.2.length ccap) S) (hgood : setErr S = 0) (hne : emptyB S.1 = false) (hn : n = S.1.length) :
    ∀ rest, GoGives w0 H n S (.slice p S.1.length cap) (.slice pc S.2.length ccap) rest
  | [] => goGives_end S p pc cap ccap hS hgood hn
  | s :: r => goGives_step S p pc cap ccap hS hgood hne hn s r (goGives_all S p pc cap ccap hS hgood hne hn r)

def zeros (n : Nat) : Array Value := ((List.replicate n (0 : Int)).map (Value.int .i64)).toArray
theorem made_zeros (n : Nat) : madeCells #[Value.int .i64 0] n = zeros n := by
  apply Array.ext
  · simp [madeCells, zeros]
  · intro i h1 h2
    simp [madeCells, zeros, Nat.mod_one]

/-- make([]int, n, n). -/
theorem run_make_ints (n : Nat) (hn : n ≤ 1000) (W : World) : (Instr.makeSlice 22 (.int .i64 n) (.int .i64 n)).run Tryz.prog W = .ok (.slice (some ⟨W.heap.size, 0, none⟩) n n) (W.alloc (.cells (zeros n) 3)) := by
  obtain ⟨i0, hi, hz0, hz1, hz2⟩ := info_parts Tryz.infoInt
  have h := run_make (P := Tryz.prog) W 22 3 i0 (.int .i64 0) Tryz.underlying22 hi hz0 .i64 .i64 n n (by omega) (Int.le_refl _) (by rw [hz2]; omega) (by omega)
  rw [hz1] at h
  simp only [Int.toNat_natCast, Nat.mul_one] at h
  rw [h]
  show Result.ok _ (W.alloc (.cells (madeCells #[Value.int .i64 0] n) _)) = _
  rw [made_zeros]

def startW (w : World) (sv cv : Value) (n : Nat) : World :=
  ((((w.alloc (.cells #[sv, cv] 29)).alloc (.cells #[.slice none 0 0] 48)).alloc (.cells (zeros n) 3)).alloc (.cells #[.slice (some ⟨w.heap.size + 1 + 1, 0, none⟩) n n] 22)).alloc
    (.cells #[.func (.func 85) #[] #[.pointer (some ⟨w.heap.size + 1 + 1 + 1, 0, none⟩), .pointer (some ⟨w.heap.size, 0, none⟩), .pointer (some ⟨w.heap.size + 1, 0, none⟩), .pointer (some ⟨w.heap.size + 1 + 1 + 1 + 1, 0, none⟩)]] 130)

theorem start_grown (w : World) (sv cv : Value) (n : Nat) : w.grownBy (startW w sv cv n) none :=
  grownBy_trans (grownBy_trans (grownBy_trans (grownBy_trans (World.grownBy_alloc _ _ _) (World.grownBy_alloc _ _ _)) (World.grownBy_alloc _ _ _)) (World.grownBy_alloc _ _ _)) (World.grownBy_alloc _ _ _)

theorem start_heap (w : World) (sv cv : Value) (n : Nat) : (startW w sv cv n).heap = ((((w.heap.push (.cells #[sv, cv] 29)).push (.cells #[.slice none 0 0] 48)).push (.cells (zeros n) 3)).push (.cells #[.slice (some ⟨w.heap.size + 2, 0, none⟩) n n] 22)).push
    (.cells #[go1Fn w.heap.size] 130) := rfl

theorem start_go (w : World) (sv cv : Value) (n : Nat) : GoSt w w.heap.size (startW w sv cv n) sv cv n (List.replicate n 0) [] := by
  have h0 : (startW w sv cv n).heap[w.heap.size]? = some (.cells #[sv, cv] 29) := by
    rw [start_heap]
    simp only [Array.getElem?_push, Array.size_push]
    repeat (first | rw [if_pos (by omega)] | rw [if_neg (by omega)])
    try simp only [if_true]
  have h1 : (startW w sv cv n).heap[w.heap.size + 1]? = some (.cells #[.slice none 0 0] 48) := by
    rw [start_heap]
    simp only [Array.getElem?_push, Array.size_push]
    repeat (first | rw [if_pos (by omega)] | rw [if_neg (by omega)])
    try simp only [if_true]
  have h2 : (startW w sv cv n).heap[w.heap.size + 2]? = some (.cells (zeros n) 3) := by
    rw [start_heap]
    simp only [Array.getElem?_push, Array.size_push]
    repeat (first | rw [if_pos (by omega)] | rw [if_neg (by omega)])
    try simp only [if_true]
  have h3 : (startW w sv cv n).heap[w.heap.size + 3]? = some (.cells #[.slice (some ⟨w.heap.size + 2, 0, none⟩) n n] 22) := by
    rw [start_heap]
    simp only [Array.getElem?_push, Array.size_push]
    repeat (first | rw [if_pos (by omega)] | rw [if_neg (by omega)])
    try simp only [if_true]
  have h4 : (startW w sv cv n).heap[w.heap.size + 4]? = some (.cells #[go1Fn w.heap.size] 130) := by
    rw [start_heap]
    simp only [Array.getElem?_push, Array.size_push]
    repeat (first | rw [if_pos (by omega)] | rw [if_neg (by omega)])
    try simp only [if_true]
  refine ⟨Nat.le_refl _, start_grown w sv cv n, by rw [start_heap]; simp, by simp [World.cell?, h0], by simp [World.cell?, h0], h2, by simp, by simp [World.cell?, h3], by simp [World.cell?, h4], _, [], h1, World.ownsRow_nil _ _ _ _, rfl, fun j pt hj => by simp at hj⟩

theorem points_empty (S : List SideD × List CondD) : ∀ (l : List SideD) (pre : List Int), emptyB l = true → pointsFrom S pre l = []
  | [], _, h => by simp [emptyB] at h
  | s :: r, pre, h => by
    simp only [emptyB, List.any_cons, Bool.or_eq_true, decide_eq_true_eq] at h
    simp only [pointsFrom]
    rcases h with h | h
    · have : (s.2.2 - s.2.1 + 1).toNat = 0 := by omega
      rw [this]
      rfl
    · rw [List.flatMap_eq_nil_iff]
      intro v _
      exact points_empty S r _ h

theorem points_good (S : List SideD × List CondD) : ∀ (l : List SideD) (pre : List Int), (∀ s ∈ l, sideBad s.2.1 s.2.2 = false) → (∀ x ∈ pre, -1000000 ≤ x ∧ x ≤ 1000000) → ∀ pt ∈ pointsFrom S pre l, pt.length = pre.length + l.length ∧ ∀ x ∈ pt, -1000000 ≤ x ∧ x ≤ 1000000
  | [], pre, _, hp, pt, h => by
    simp only [pointsFrom] at h
    split at h
    · obtain rfl := List.mem_singleton.1 h
      exact ⟨rfl, hp⟩
    · cases h
  | s :: r, pre, hs, hp, pt, h => by
    simp only [pointsFrom, List.mem_flatMap] at h
    obtain ⟨v, hv, h⟩ := h
    obtain ⟨a, b, c, d⟩ := side_range (hs s (by simp))
    obtain ⟨k, hk, rfl⟩ := List.mem_map.1 hv
    have hk := List.mem_range.1 hk
    obtain ⟨h1, h2⟩ := points_good S r _ (fun s hs' => hs s (by simp [hs'])) (fun x hx => by
      rcases List.mem_append.1 hx with hx | hx
      · exact hp x hx
      · obtain rfl := List.mem_singleton.1 hx
        exact ⟨by omega, by omega⟩) pt h
    exact ⟨by simp at h1; simp; omega, h2⟩

theorem box_bound : ∀ (l : List SideD) (q : Nat), 1 ≤ q → q ≤ 200000 → emptyB l = false → boxOver q l = false → q * boxN l ≤ 200000
  | [], q, _, h, _, _ => by simpa [boxN] using h
  | s :: r, q, h1, h2, he, hb => by
    simp only [emptyB, List.any_cons, Bool.or_eq_false_iff, decide_eq_false_iff_not] at he
    simp only [boxOver] at hb
    split at hb
    · cases hb
    · rename_i hq
      have e1 : s.2.2 - s.2.1 + 1 = (((s.2.2 - s.2.1 + 1).toNat : Nat) : Int) := by omega
      rw [e1, ← Int.natCast_mul] at hb hq
      have hd : 1 ≤ (s.2.2 - s.2.1 + 1).toNat := by omega
      have := box_bound r (q * (s.2.2 - s.2.1 + 1).toNat) (Nat.mul_le_mul h1 hd) (by omega) he.2 hb
      simp only [boxN]
      rwa [← Nat.mul_assoc]

theorem box_ok {S : List SideD × List CondD} (h : setErr S = 0) (hne : emptyB S.1 = false) : boxN S.1 ≤ 200000 := by
  obtain ⟨g1, g2, g3, g4⟩ := set_good h
  rw [setErr_4 (by omega) g2 (by omega) g4, hne] at h
  have hb : boxOver 1 S.1 = false := by
    cases hb : boxOver 1 S.1
    · rfl
    · rw [hb] at h; cases h
  have := box_bound S.1 1 (by omega) (by omega) hne hb
  omega

def PointsPost (S : List SideD × List CondD) (w : World) (e : Ending) (w' : World) : Prop := ∃ v, e = .returned v ∧ RowsAt w' v (pointsFrom S [] S.1) ∧ w.grownBy w' none

set_option maxRecDepth 100000 in
set_option maxHeartbeats 4000000 in
theorem pointsIn_at (S : List SideD × List CondD) (p pc : Option Addr) (cap ccap : Nat) (w : World) (hS : SetAt w (.slice p S.1.length cap) (.slice pc S.2.length ccap) S) (hgood : setErr S = 0) :
    Calls Tryz.prog 53 #[.agg #[.slice p S.1.length cap, .slice pc S.2.length ccap]] w (PointsPost S w) := by
  have hn8 := (set_good hgood).1
  obtain ⟨⟨p', cap', hsv, ⟨hl, _⟩, hc⟩, _⟩ := id hS
  obtain ⟨rfl, _, rfl⟩ := Value.slice.inj hsv
  have H := Lib.hid hc
  have HS := Lib.hid hS
  have HE := Lib.hid hgood
  have HSt := Lib.hid (start_go w (.slice p S.1.length cap) (.slice pc S.2.length ccap) S.1.length)
  clear hS hgood hc hsv hl
  have hmk := run_make_ints S.1.length (by omega)
  go_enter Tryz.func53, Tryz.ntmps53
  go_wp2
  go_loopw [16] (fun i wr => ∃ k : Nat, k ≤ S.1.length ∧ i = .int .i64 k ∧ Hid (emptyB (S.1.take k) = false) ∧ Hid ((startW w (.slice p S.1.length cap) (.slice pc S.2.length ccap) S.1.length).grownBy wr none)) (fun i _ => S.1.length - (intOf i).toNat)
  case atStart => exact ⟨0, Nat.zero_le _, rfl, rfl, grownBy_refl _ _⟩
  case round =>
    obtain ⟨k, hk, rfl, HR, HGC⟩ := hrel
    by_cases hlt : k < S.1.length
    · have h0 := List.getElem?_eq_getElem hlt
      have hgw : w.grownBy wr none := grownBy_trans (start_grown _ _ _ _) HGC.out
      obtain ⟨b, off, rfl, h3, ⟨h4, h4'⟩, ⟨h5, h5'⟩, h6, h7, h8⟩ := (H.out k _ h0).kept hgw
      have HSn := Lib.hid (emptyB_snoc h0)
      have HT := fun h => emptyB_stop h0 h
      generalize hn : (S.1[k]).1 = nm at *
      generalize hlo : (S.1[k]).2.1 = lo at *
      generalize hhi : (S.1[k]).2.2 = hi' at *
      have HT := Lib.hid HT
      have G := Lib.hid hgw
      clear hgw h0 hn hlo hhi
      go_wp2
      · have he : hi' < lo := by assumption
        go_ret
        have hz := points_empty S S.1 [] (HT.out he)
        exact ⟨_, rfl, ⟨none, 0, by rw [hz]; rfl, by rw [hz]; simp, fun j pt hj => by rw [hz] at hj; simp at hj⟩, grownBy_trans G.out (World.grownBy_alloc _ _ _)⟩
      · have he : ¬ hi' < lo := by omega
        go_roundw
        case rel => exact ⟨k + 1, by omega, by go_num, by show _ = _; rw [HSn.out, HR.out]; simpa using he, grownBy_trans HGC.out (World.grownBy_alloc _ _ _)⟩
        case measure => simp [intOf]; omega
    · obtain rfl : k = S.1.length := by omega
      have hne : emptyB S.1 = false := by have := HR.out; rwa [List.take_length] at this
      have hgo := HSt.out.kept HGC.out
      have hbox := Nat.le_trans (pointsFrom_length S S.1 []) (box_ok HE.out hne)
      have hgc := hgo.gc
      have hc0 := goGives_all S p pc cap ccap HS.out HE.out hne rfl S.1 0 wr _ [] rfl (Nat.zero_le _) hgo (fun x hx => by have := List.eq_of_mem_replicate hx; omega) (by simp; omega)
      have HC := Lib.hid hc0
      have HBox := Lib.hid hbox
      unfold go1Fn at hgc
      clear hgo hc0 hbox
      go_wp2_with (first | (go_at_call 85; refine HC.out.mono ?_; rintro e w2 ⟨rfl, x2, h2, _, _⟩; obtain ⟨ov, vs, o1, o2, o3⟩ := h2.out; have hov : w2.cell? ⟨w.heap.size + 1, 0, none⟩ = some ov := (by simp [World.cell?, o1]); have O2 := Lib.hid o2; have O3 := Lib.hid o3; have G2 := Lib.hid h2.grown; clear o1 o2 o3 h2))
      go_ret
      have hb := HBox.out
      have hp := points_good S S.1 [] (fun s hs => (sides_good [] (set_good HE.out).2.1 s hs).2) (fun x hx => by cases hx)
      exact ⟨ov, rfl, rows_of_owns (R := pointsFrom S [] S.1) O2.out O3.out (by omega) (fun pt hpt => by have := (hp pt hpt).1; simp at this; omega) (fun pt hpt x hx => by have := (hp pt hpt).2 x hx; omega), G2.out⟩

theorem pointsIn_any (S : List SideD × List CondD) (sv cv : Value) (w : World) (hS : SetAt w sv cv S) (hgood : setErr S = 0) :
    Calls Tryz.prog 53 #[.agg #[sv, cv]] w (PointsPost S w) := by
  obtain ⟨⟨p, cap, rfl, _⟩, ⟨pc, ccap, rfl, _⟩⟩ := id hS
  exact pointsIn_at S p pc cap ccap w hS hgood

end Go.Proofs.YtfilcaolgfghcaaGreat
