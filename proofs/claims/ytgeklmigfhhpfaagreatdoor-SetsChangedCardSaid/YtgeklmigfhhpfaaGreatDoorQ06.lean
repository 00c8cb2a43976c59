/-
 PointsIn: all points of a set, in order. Rows of package affine: their values, whether conditions are met, how many variables they hang on. rowOf: a form as a row.
-/
import Derived.Laws.EntriesVeiled
import Derived.WalkSpells
import Derived.Deep.RegionHeld3
import Derived.Deep.DeepCutAuto
import Derived.Deep.RegionLaw
import Derived.Test.YtgeklmigfhhpfaaGreatDoorQ04
import Derived.Test.YtgeklmigfhhpfaaGreatDoorQ05
namespace Go.Proofs.YtgeklmigfhhpfaaGreatDoor
open Go.RowKit
attribute [local go_sem ↓] Go.wp_at_zero Go.wp_at_succ
def RowsAt (w : World) (v : Value) (R : List (List Int)) : Prop :=
 ∃ p cap, v = .slice p R.length cap ∧ R.length ≤ 1000000 ∧ ∀ j pt, R[j]? = some pt → ∃ b off rv, p = some ⟨b, off, none⟩ ∧ w.cell? ⟨b, off + j, none⟩ = some rv ∧ IntsAt w rv pt
theorem RowsAt.kept {w w' : World} {v : Value} {R : List (List Int)} (h : RowsAt w v R) (hg : w.grownBy w' none) : RowsAt w' v R := by
 obtain ⟨p, cap, hv, hl, hc⟩ := h
 refine ⟨p, cap, hv, hl, fun j pt hj => ?_⟩
 obtain ⟨b, off, rv, hp, h1, h2⟩ := hc j pt hj
 exact ⟨b, off, rv, hp, hg.cell h1 (by simp), h2.kept hg⟩
theorem ints_of_owns {w : World} {base : Nat} {e : TypeId} {v : Value} {xs : List Int} (h : w.ownsRow base e 1 v xs.length (xs.map (Value.int .i64))) (hl : xs.length ≤ 1000000) (hb : ∀ x ∈ xs, -9223372036854775808 ≤ x ∧ x ≤ 9223372036854775807) : IntsAt w v xs := by
 have hcells := fun g hg => World.ownsRow.cells (g := g) h hg
 rcases h.2 with ⟨rfl, hz⟩ | ⟨g, cap, cur, rfl, _⟩
 · exact ⟨none, 0, by rw [hz], hl, fun j s hj => by rw [List.length_eq_zero_iff.1 hz] at hj; simp at hj⟩
 · refine ⟨_, cap, rfl, hl, fun j s hj => ⟨g, 0, rfl, hb s (List.mem_of_getElem? hj), ?_⟩⟩
   have hadd : (⟨g, 0, none⟩ : Addr).add j = ⟨g, j, none⟩ := by unfold Addr.add; split <;> simp_all
   have := hcells g rfl j (.int .i64 s) (by simp [hj])
   rw [hadd] at this
   simpa using this
theorem rows_of_owns {w : World} {base : Nat} {e : TypeId} {ob : Option Nat} {v : Value} {vs : List Value} {R : List (List Int)} (h : w.ownsRow base e 1 v R.length vs) (hr : RowsAre w base ob vs R) (hl : R.length ≤ 1000000) (hl2 : ∀ pt ∈ R, pt.length ≤ 1000000)
  (hb : ∀ pt ∈ R, ∀ x ∈ pt, -9223372036854775808 ≤ x ∧ x ≤ 9223372036854775807) : RowsAt w v R := by
 have hcells := fun g hg => World.ownsRow.cells (g := g) h hg
 rcases h.2 with ⟨rfl, hz⟩ | ⟨g, cap, cur, rfl, _⟩
 · exact ⟨none, 0, by rw [hz], hl, fun j s hj => by rw [List.length_eq_zero_iff.1 hz] at hj; simp at hj⟩
 · refine ⟨_, cap, rfl, hl, fun j pt hj => ?_⟩
   obtain ⟨rv, h1, h2, _⟩ := hr.2 j pt hj
   have hadd : (⟨g, 0, none⟩ : Addr).add j = ⟨g, j, none⟩ := by unfold Addr.add; split <;> simp_all
   have := hcells g rfl j rv h1
   rw [hadd] at this
   have hm := List.mem_of_getElem? hj
   exact ⟨g, 0, rv, rfl, by simpa using this, ints_of_owns h2 (hl2 pt hm) (hb pt hm)⟩
theorem goGives_all {w0 : World} {H n : Nat} (S : List SideD × List CondD) (p pc : Option Addr) (cap ccap : Nat) (hS : SetAt w0 (.slice p S.1.length cap) (.slice pc S.2.length ccap) S) (hgood : setErr S = 0) (hne : emptyB S.1 = false) (hn : n = S.1.length) :
  ∀ rest, GoGives w0 H n S (.slice p S.1.length cap) (.slice pc S.2.length ccap) rest
 | [] => goGives_end S p pc cap ccap hS hgood hn
 | s :: r => goGives_step S p pc cap ccap hS hgood hne hn s r (goGives_all S p pc cap ccap hS hgood hne hn r)
def zeros (n : Nat) : Array Value := ((List.replicate n (0 : Int)).map (Value.int .i64)).toArray
theorem made_zeros (n : Nat) : madeCells #[Value.int .i64 0] n = zeros n := by
 apply Array.ext
 · simp [madeCells, zeros]
 · intro i h1 h2
   simp [madeCells, zeros, Nat.mod_one]
theorem run_make_ints (n : Nat) (hn : n ≤ 1000) (W : World) : (Instr.makeSlice 22 (.int .i64 n) (.int .i64 n)).run Tryz.prog W = .ok (.slice (some ⟨W.heap.size, 0, none⟩) n n) (W.alloc (.cells (zeros n) 3)) := by
 obtain ⟨i0, hi, hz0, hz1, hz2⟩ := info_parts Tryz.infoInt
 have h := run_make (P := Tryz.prog) W 22 3 i0 (.int .i64 0) Tryz.underlying22 hi hz0 .i64 .i64 n n (by omega) (Int.le_refl _) (by rw [hz2]; omega) (by omega)
 rw [hz1] at h
 simp only [Int.toNat_natCast, Nat.mul_one] at h
 rw [h]
 show Result.ok _ (W.alloc (.cells (madeCells #[Value.int .i64 0] n) _)) = _
 rw [made_zeros]
def startW (w : World) (sv cv : Value) (n : Nat) : World :=
 ((((w.alloc (.cells #[sv, cv] 29)).alloc (.cells #[.slice none 0 0] 51)).alloc (.cells (zeros n) 3)).alloc (.cells #[.slice (some ⟨w.heap.size + 1 + 1, 0, none⟩) n n] 22)).alloc
   (.cells #[.func (.func 62) #[] #[.pointer (some ⟨w.heap.size + 1 + 1 + 1, 0, none⟩), .pointer (some ⟨w.heap.size, 0, none⟩), .pointer (some ⟨w.heap.size + 1, 0, none⟩), .pointer (some ⟨w.heap.size + 1 + 1 + 1 + 1, 0, none⟩)]] 106)
theorem start_grown (w : World) (sv cv : Value) (n : Nat) : w.grownBy (startW w sv cv n) none :=
 gT (gT (gT (gT (gA _ _ _) (gA _ _ _)) (gA _ _ _)) (gA _ _ _)) (gA _ _ _)
theorem start_heap (w : World) (sv cv : Value) (n : Nat) : (startW w sv cv n).heap = ((((w.heap.push (.cells #[sv, cv] 29)).push (.cells #[.slice none 0 0] 51)).push (.cells (zeros n) 3)).push (.cells #[.slice (some ⟨w.heap.size + 2, 0, none⟩) n n] 22)).push
  (.cells #[go1Fn w.heap.size] 106) := rfl
theorem start_go (w : World) (sv cv : Value) (n : Nat) : GoSt w w.heap.size (startW w sv cv n) sv cv n (List.replicate n 0) [] := by
 have h0 : (startW w sv cv n).heap[w.heap.size]? = some (.cells #[sv, cv] 29) := by
  rw [start_heap]
  simp only [Array.getElem?_push, Array.size_push]
  repeat (first | rw [if_pos (by omega)] | rw [if_neg (by omega)])
  try simp only [if_true]
 have h1 : (startW w sv cv n).heap[w.heap.size + 1]? = some (.cells #[.slice none 0 0] 51) := by
  rw [start_heap]
  simp only [Array.getElem?_push, Array.size_push]
  repeat (first | rw [if_pos (by omega)] | rw [if_neg (by omega)])
  try simp only [if_true]
 have h2 : (startW w sv cv n).heap[w.heap.size + 2]? = some (.cells (zeros n) 3) := by
  rw [start_heap]
  simp only [Array.getElem?_push, Array.size_push]
  repeat (first | rw [if_pos (by omega)] | rw [if_neg (by omega)])
  try simp only [if_true]
 have h3 : (startW w sv cv n).heap[w.heap.size + 3]? = some (.cells #[.slice (some ⟨w.heap.size + 2, 0, none⟩) n n] 22) := by
  rw [start_heap]
  simp only [Array.getElem?_push, Array.size_push]
  repeat (first | rw [if_pos (by omega)] | rw [if_neg (by omega)])
  try simp only [if_true]
 have h4 : (startW w sv cv n).heap[w.heap.size + 4]? = some (.cells #[go1Fn w.heap.size] 106) := by
  rw [start_heap]
  simp only [Array.getElem?_push, Array.size_push]
  repeat (first | rw [if_pos (by omega)] | rw [if_neg (by omega)])
  try simp only [if_true]
 refine ⟨Nat.le_refl _, start_grown w sv cv n, by rw [start_heap]; simp, by simp [World.cell?, h0], by simp [World.cell?, h0], h2, by simp, by simp [World.cell?, h3], by simp [World.cell?, h4], _, [], h1, World.ownsRow_nil _ _ _ _, rfl, fun j pt hj => by simp at hj⟩
theorem points_empty (S : List SideD × List CondD) : ∀ (l : List SideD) (pre : List Int), emptyB l = true → pointsFrom S pre l = []
 | [], _, h => by simp [emptyB] at h
 | s :: r, pre, h => by
   simp only [emptyB, List.any_cons, Bool.or_eq_true, decide_eq_true_eq] at h
   simp only [pointsFrom]
   rcases h with h | h
   · have : (s.2.2 - s.2.1 + 1).toNat = 0 := by omega
     rw [this]
     rfl
   · rw [List.flatMap_eq_nil_iff]
     intro v _
     exact points_empty S r _ h
theorem points_good (S : List SideD × List CondD) : ∀ (l : List SideD) (pre : List Int), (∀ s ∈ l, sideBad s.2.1 s.2.2 = false) → (∀ x ∈ pre, -1000000 ≤ x ∧ x ≤ 1000000) → ∀ pt ∈ pointsFrom S pre l, pt.length = pre.length + l.length ∧ ∀ x ∈ pt, -1000000 ≤ x ∧ x ≤ 1000000
 | [], pre, _, hp, pt, h => by
   simp only [pointsFrom] at h
   split at h
   · obtain rfl := List.mem_singleton.1 h
     exact ⟨rfl, hp⟩
   · cases h
 | s :: r, pre, hs, hp, pt, h => by
   simp only [pointsFrom, List.mem_flatMap] at h
   obtain ⟨v, hv, h⟩ := h
   obtain ⟨a, b, c, d⟩ := side_range (hs s (by simp))
   obtain ⟨k, hk, rfl⟩ := List.mem_map.1 hv
   have hk := List.mem_range.1 hk
   obtain ⟨h1, h2⟩ := points_good S r _ (fun s hs' => hs s (by simp [hs'])) (fun x hx => by
    rcases List.mem_append.1 hx with hx | hx
    · exact hp x hx
    · obtain rfl := List.mem_singleton.1 hx
      exact ⟨by omega, by omega⟩) pt h
   exact ⟨by simp at h1; simp; omega, h2⟩
theorem box_bound : ∀ (l : List SideD) (q : Nat), 1 ≤ q → q ≤ 200000 → emptyB l = false → boxOver q l = false → q * boxN l ≤ 200000
 | [], q, _, h, _, _ => by simpa [boxN] using h
 | s :: r, q, h1, h2, he, hb => by
   simp only [emptyB, List.any_cons, Bool.or_eq_false_iff, decide_eq_false_iff_not] at he
   simp only [boxOver] at hb
   split at hb
   · cases hb
   · rename_i hq
     have e1 : s.2.2 - s.2.1 + 1 = (((s.2.2 - s.2.1 + 1).toNat : Nat) : Int) := by omega
     rw [e1, ← Int.natCast_mul] at hb hq
     have hd : 1 ≤ (s.2.2 - s.2.1 + 1).toNat := by omega
     have := box_bound r (q * (s.2.2 - s.2.1 + 1).toNat) (Nat.mul_le_mul h1 hd) (by omega) he.2 hb
     simp only [boxN]
     rwa [← Nat.mul_assoc]
theorem box_ok {S : List SideD × List CondD} (h : setErr S = 0) (hne : emptyB S.1 = false) : boxN S.1 ≤ 200000 := by
 obtain ⟨g1, g2, g3, g4⟩ := set_good h
 rw [setErr_4 (by omega) g2 (by omega) g4, hne] at h
 have hb : boxOver 1 S.1 = false := by
  cases hb : boxOver 1 S.1
  · rfl
  · rw [hb] at h; cases h
 have := box_bound S.1 1 (by omega) (by omega) hne hb
 omega
def PointsPost (S : List SideD × List CondD) (w : World) (e : Ending) (w' : World) : Prop := ∃ v, e = .returned v ∧ RowsAt w' v (pointsFrom S [] S.1) ∧ w.grownBy w' none
set_option maxRecDepth 100000 in
set_option maxHeartbeats 4000000 in
theorem pointsIn_at (S : List SideD × List CondD) (p pc : Option Addr) (cap ccap : Nat) (w : World) (hS : SetAt w (.slice p S.1.length cap) (.slice pc S.2.length ccap) S) (hgood : setErr S = 0) :
  Calls Tryz.prog 20 #[.agg #[.slice p S.1.length cap, .slice pc S.2.length ccap]] w (PointsPost S w) := by
 have hn8 := (set_good hgood).1
 obtain ⟨⟨p', cap', hsv, ⟨hl, _⟩, hc⟩, _⟩ := id hS
 obtain ⟨rfl, _, rfl⟩ := Value.slice.inj hsv
 have H := uH hc
 have HS := uH hS
 have HE := uH hgood
 have HSt := uH (start_go w (.slice p S.1.length cap) (.slice pc S.2.length ccap) S.1.length)
 clear hS hgood hc hsv hl
 have hmk := run_make_ints S.1.length (by omega)
 go_enter Tryz.func20, Tryz.ntmps20
 go_wp2
 go_loopw [16] (fun i wr => ∃ k : Nat, k ≤ S.1.length ∧ i = .int .i64 k ∧ Hid (emptyB (S.1.take k) = false) ∧ Hid ((startW w (.slice p S.1.length cap) (.slice pc S.2.length ccap) S.1.length).grownBy wr none)) (fun i _ => S.1.length - (intOf i).toNat)
 case atStart => exact ⟨0, Nat.zero_le _, rfl, rfl, gR _ _⟩
 case round =>
  obtain ⟨k, hk, rfl, HR, HGC⟩ := hrel
  by_cases hlt : k < S.1.length
  · have h0 := List.getElem?_eq_getElem hlt
    have hgw : w.grownBy wr none := gT (start_grown _ _ _ _) HGC.out
    obtain ⟨b, off, rfl, h3, ⟨h4, h4'⟩, ⟨h5, h5'⟩, h6, h7, h8⟩ := (H.out k _ h0).kept hgw
    have HSn := uH (emptyB_snoc h0)
    have HT := fun h => emptyB_stop h0 h
    generalize hn : (S.1[k]).1 = nm at *
    generalize hlo : (S.1[k]).2.1 = lo at *
    generalize hhi : (S.1[k]).2.2 = hi' at *
    have HT := uH HT
    have G := uH hgw
    clear hgw h0 hn hlo hhi
    go_wp2
    · have he : hi' < lo := by assumption
      go_ret
      have hz := points_empty S S.1 [] (HT.out he)
      exact ⟨_, rfl, ⟨none, 0, by rw [hz]; rfl, by rw [hz]; simp, fun j pt hj => by rw [hz] at hj; simp at hj⟩, gT G.out (gA _ _ _)⟩
    · have he : ¬ hi' < lo := by omega
      go_roundw
      case rel => exact ⟨k + 1, by omega, by go_num, by show _ = _; rw [HSn.out, HR.out]; simpa using he, gT HGC.out (gA _ _ _)⟩
      case measure => simp [intOf]; omega
  · obtain rfl : k = S.1.length := by omega
    have hne : emptyB S.1 = false := by have := HR.out; rwa [List.take_length] at this
    have hgo := HSt.out.kept HGC.out
    have hbox := Nat.le_trans (pointsFrom_length S S.1 []) (box_ok HE.out hne)
    have hgc := hgo.gc
    have hc0 := goGives_all S p pc cap ccap HS.out HE.out hne rfl S.1 0 wr _ [] rfl (Nat.zero_le _) hgo (fun x hx => by have := List.eq_of_mem_replicate hx; omega) (by simp; omega)
    have HC := uH hc0
    have HBox := uH hbox
    unfold go1Fn at hgc
    clear hgo hc0 hbox
    go_wp2_with (first | (go_at_call 62; refine HC.out.mono ?_; rintro e w2 ⟨rfl, x2, h2, _, _⟩; obtain ⟨ov, vs, o1, o2, o3⟩ := h2.out; have hov : w2.cell? ⟨w.heap.size + 1, 0, none⟩ = some ov := (by simp [World.cell?, o1]); have O2 := uH o2; have O3 := uH o3; have G2 := uH h2.grown; clear o1 o2 o3 h2))
    go_ret
    have hb := HBox.out
    have hp := points_good S S.1 [] (fun s hs => (sides_good [] (set_good HE.out).2.1 s hs).2) (fun x hx => by cases hx)
    exact ⟨ov, rfl, rows_of_owns (R := pointsFrom S [] S.1) O2.out O3.out (by omega) (fun pt hpt => by have := (hp pt hpt).1; simp at this; omega) (fun pt hpt x hx => by have := (hp pt hpt).2 x hx; omega), G2.out⟩
theorem pointsIn_any (S : List SideD × List CondD) (sv cv : Value) (w : World) (hS : SetAt w sv cv S) (hgood : setErr S = 0) :
  Calls Tryz.prog 20 #[.agg #[sv, cv]] w (PointsPost S w) := by
 obtain ⟨⟨p, cap, rfl, _⟩, ⟨pc, ccap, rfl, _⟩⟩ := id hS
 exact pointsIn_at S p pc cap ccap w hS hgood
end Go.Proofs.YtgeklmigfhhpfaaGreatDoor
namespace Go.Proofs.YtgeklmigfhhpfaaGreatDoor
open Go.RowKit
theorem grown_ad (w : World) (o : Obj) (r : Option Nat) : w.grownBy (w.alloc o).drew r := gT (gA w o r) ⟨rfl, rfl, rfl, Nat.le_refl _, fun _ _ _ => rfl⟩
theorem grown_d (w : World) (r : Option Nat) : w.grownBy w.drew r := ⟨rfl, rfl, rfl, Nat.le_refl _, fun _ _ _ => rfl⟩
abbrev RowD := Int × List Int
def RowAt (w : World) (p : Option Addr) (r : RowD) (j : Nat) : Prop :=
 ∃ b off cv, p = some ⟨b, off, none⟩ ∧ w.cell? ⟨b, off + j * 2, none⟩ = some (.int .i64 r.1) ∧ w.cell? ⟨b, off + j * 2 + 1, none⟩ = some cv ∧ IntsAt w cv r.2
theorem RowAt.kept {w w' : World} {p : Option Addr} {r : RowD} {j : Nat} (h : RowAt w p r j) (hg : w.grownBy w' none) : RowAt w' p r j := by
 obtain ⟨b, off, cv, hp, h1, h2, h3⟩ := h
 exact ⟨b, off, cv, hp, hg.cell h1 (by simp), hg.cell h2 (by simp), h3.kept hg⟩
def RowLAt (w : World) (v : Value) (l : List RowD) : Prop := ∃ p cap, v = .slice p l.length cap ∧ l.length ≤ 1000000 ∧ ∀ j r, l[j]? = some r → RowAt w p r j
theorem RowLAt.kept {w w' : World} {v : Value} {l : List RowD} (h : RowLAt w v l) (hg : w.grownBy w' none) : RowLAt w' v l := by
 obtain ⟨p, cap, hv, hl, hc⟩ := h
 exact ⟨p, cap, hv, hl, fun j t hj => (hc j t hj).kept hg⟩
def goodRow (n : Nat) (r : RowD) : Prop := r.2.length = n ∧ (-1000000 ≤ r.1 ∧ r.1 ≤ 1000000) ∧ ∀ c ∈ r.2, -1000 ≤ c ∧ c ≤ 1000
def near (xs : List Int) : Prop := ∀ x ∈ xs, -1000000 ≤ x ∧ x ≤ 1000000
def dot : List Int → List Int → Int
 | c :: cs, x :: xs => c * x + dot cs xs
 | _, _ => 0
def rowVal (r : RowD) (xs : List Int) : Int := r.1 + dot r.2 xs
theorem dot_nil (cs : List Int) : dot cs [] = 0 := by cases cs <;> rfl
theorem dot_snoc : ∀ (cs xs : List Int) (k : Nat) (c x : Int), cs[k]? = some c → xs[k]? = some x → dot cs (xs.take (k + 1)) = dot cs (xs.take k) + c * x
 | [], _, _, _, _, h, _ => by simp at h
 | _ :: _, [], _, _, _, _, h => by simp at h
 | a :: cs, b :: xs, 0, c, x, h, hx => by
   simp at h hx
   subst h hx
   simp [dot, dot_nil]
 | a :: cs, b :: xs, k + 1, c, x, h, hx => by
   have ih := dot_snoc cs xs k c x (by simpa using h) (by simpa using hx)
   simp only [List.take_succ_cons, dot]
   rw [ih]
   omega
theorem dot_bound : ∀ (cs xs : List Int) (k : Nat), (∀ c ∈ cs, -1000 ≤ c ∧ c ≤ 1000) → near xs → -1000000000 * (k : Int) ≤ dot cs (xs.take k) ∧ dot cs (xs.take k) ≤ 1000000000 * (k : Int)
 | [], xs, k, _, _ => by simp only [dot]; omega
 | _ :: _, [], k, _, _ => by rw [List.take_nil, dot_nil]; omega
 | _ :: _, _ :: _, 0, _, _ => by rw [List.take_zero, dot_nil]; omega
 | a :: cs, b :: xs, k + 1, h, hx => by
   obtain ⟨h1, h2⟩ := dot_bound cs xs k (fun c hc => h c (by simp [hc])) (fun x hx' => hx x (by simp [hx']))
   obtain ⟨h3, h4⟩ := h a (by simp)
   obtain ⟨h5, h6⟩ := hx b (by simp)
   obtain ⟨h7, h8⟩ := prod_bound h3 h4 h5 h6
   simp only [List.take_succ_cons, dot]
   omega
set_option maxRecDepth 100000 in
set_option maxHeartbeats 1000000 in
theorem rowValue_any (n : Nat) (r : RowD) (cv xv : Value) (xs : List Int) (w : World) (hr : goodRow n r) (hn : n ≤ 1000) (hc : IntsAt w cv r.2) (hx : IntsAt w xv xs) (hl : xs.length ≤ n) (hb : near xs) :
  Calls Tryz.prog 133 #[.agg #[.int .i64 r.1, cv], xv] w (Gives (.int .i64 (rowVal r xs)) w) := by
 obtain ⟨num, cs⟩ := r
 obtain ⟨g1, ⟨g2, g3⟩, g4⟩ := hr
 obtain ⟨p, cap, rfl, hcl, hcc⟩ := hc
 obtain ⟨q, xcap, rfl, hxl, hxc⟩ := hx
 simp only at g1 g2 g3 g4 hcl hcc ⊢
 have HC := uH hcc
 have HX := uH hxc
 have HB := uH (fun k => dot_bound cs xs k g4 hb)
 have HN := uH g1
 clear hcc hxc g4 hb g1
 go_enter Tryz.func133, Tryz.ntmps133
 go_wp2
 go_loopw [5, 12] (fun q i wr => ∃ (k : Nat) (z : Int), k ≤ xs.length ∧ i = .int .i64 k ∧ q = .int .i64 z ∧ Hid (z = num + dot cs (xs.take k)) ∧ Hid ((w.alloc (.cells #[.int .i64 num, .slice p cs.length cap] 86)).grownBy wr none)) (fun _ i _ => xs.length - (intOf i).toNat)
 case atStart => exact ⟨0, num, Nat.zero_le _, rfl, rfl, by show _ = _; rw [List.take_zero, dot_nil]; omega, gR _ _⟩
 case round =>
  obtain ⟨k, z, hk, rfl, rfl, HZ, HG⟩ := hrel
  by_cases hlt : k < xs.length
  · have hltc : k < cs.length := by have := HN.out; omega
    have hgw : w.grownBy wr none := gT (gA _ _ _) HG.out
    have h0 := List.getElem?_eq_getElem hlt
    have h1 := List.getElem?_eq_getElem hltc
    obtain ⟨b, off, rfl, ⟨x1, x2⟩, hx'⟩ := HX.out k _ h0
    obtain ⟨d, doff, rfl, ⟨c1, c2⟩, hc'⟩ := HC.out k _ h1
    have hx'' := hgw.cell hx' (by simp)
    have hc'' := hgw.cell hc' (by simp)
    have hbox := HG.out.cell (a := ⟨w.heap.size, 1, none⟩) (v := .slice (some ⟨d, doff, none⟩) cs.length cap) (by simp) (by simp)
    have HS := uH (dot_snoc cs xs k _ _ h1 h0)
    obtain ⟨b1, b2⟩ := HB.out k
    obtain ⟨b3, b4⟩ := HB.out (k + 1)
    rw [HS.out] at b3 b4
    have hz := HZ.out
    have z1 : -1000000 - 1000000000 * (k : Int) ≤ z := by omega
    have z2 : z ≤ 1000000 + 1000000000 * (k : Int) := by omega
    generalize xs[k] = x at *
    generalize cs[k] = c at *
    have hk8 : (k : Int) < 1000 := by omega
    have m1 : -2000000000000 ≤ c * x := by omega
    have m2 : c * x ≤ 2000000000000 := by omega
    have hI2 : (k : Int) < (cs.length : Int) := by omega
    clear h0 h1 hx' hc' hz hgw b1 b2 b3 b4
    go_wp2
    go_roundw
    case rel => exact ⟨k + 1, _, by omega, by go_num, rfl, by show _ = _; rw [HS.out, HZ.out]; omega, HG.out⟩
    case measure => simp [intOf]; omega
  · obtain rfl : k = xs.length := by omega
    go_wp2
    go_ret
    exact ⟨ret_i64 (by rw [HZ.out, List.take_length]; rfl), gT (gA _ _ _) HG.out⟩
def negRow (xs : List Int) (r : RowD) : Bool := decide (rowVal r xs < 0)
set_option maxRecDepth 100000 in
set_option maxHeartbeats 1000000 in
theorem areMet_any (n : Nat) (l : List RowD) (v xv : Value) (xs : List Int) (w : World) (hl : RowLAt w v l) (hr : ∀ r ∈ l, goodRow n r) (hn : n ≤ 1000) (hx : IntsAt w xv xs) (hxl : xs.length ≤ n) (hb : near xs) :
  Calls Tryz.prog 100 #[v, xv] w (Gives (.bool (!l.any (negRow xs))) w) := by
 obtain ⟨p, cap, rfl, hlen, hc⟩ := hl
 have H := uH hc
 have HX := uH hx
 have HR0 := uH hr
 have HB := uH hb
 clear hc hx hr hb
 go_enter Tryz.func100, Tryz.ntmps100
 go_wp2
 go_loopw [9] (fun i wr => ∃ k : Nat, k ≤ l.length ∧ i = .int .i64 k ∧ Hid ((l.take k).any (negRow xs) = false) ∧ Hid (w.grownBy wr none)) (fun i _ => l.length - (intOf i).toNat)
 case atStart => exact ⟨0, Nat.zero_le _, rfl, rfl, gR _ _⟩
 case round =>
  obtain ⟨k, hk, rfl, HR, HG⟩ := hrel
  by_cases hlt : k < l.length
  · have h0 := List.getElem?_eq_getElem hlt
    obtain ⟨b, off, cv, rfl, h1, h2, h3⟩ := (H.out k _ h0).kept HG.out
    obtain ⟨pv, vcap, rfl, hvl, hvc⟩ := h3
    have h3 : IntsAt wr (.slice pv (l[k]).2.length vcap) (l[k]).2 := ⟨pv, vcap, rfl, hvl, hvc⟩
    have HS := uH (any_snoc (q := negRow xs) h0)
    have HH := uH (any_hit (q := negRow xs) h0)
    have HV := uH (fun W (hg : wr.grownBy W none) => rowValue_any n l[k] (.slice pv (l[k]).2.length vcap) xv xs W (HR0.out _ (List.getElem_mem hlt)) hn (h3.kept hg) (HX.out.kept (gT HG.out hg)) hxl HB.out)
    have HE := uH (show negRow xs l[k] = decide (rowVal l[k] xs < 0) from rfl)
    generalize rowVal l[k] xs = z at *
    generalize hc : (l[k]).1 = c at *
    generalize hcl : (l[k]).2.length = vl at *
    clear h0 h3 hc hcl hvl hvc
    go_wp2_with (first | (go_at_call 133; refine (HV.out _ (gA _ _ _)).mono ?_; rintro e w' ⟨rfl, hg1⟩; have G1 := uH hg1; clear hg1))
    · have he : z < 0 := by assumption
      go_ret
      exact ⟨ret_bool (by rw [HH.out (by rw [HE.out]; simpa using he)]; rfl), gT HG.out (gT (gA _ _ _) G1.out)⟩
    · have he : ¬ z < 0 := by omega
      go_roundw
      case rel => exact ⟨k + 1, by omega, by go_num, by show _ = _; rw [HS.out, HR.out, HE.out]; simpa using he, gT HG.out (gT (gA _ _ _) G1.out)⟩
      case measure => simp [intOf]; omega
  · obtain rfl : k = l.length := by omega
    go_wp2
    go_ret
    exact ⟨ret_bool (by have := HR.out; rw [List.take_length] at this; rw [this]; rfl), HG.out⟩
def rowLen : List Int → Nat
 | [] => 0
 | c :: cs => if rowLen cs = 0 then (if c = 0 then 0 else 1) else rowLen cs + 1
theorem rowLen_le : ∀ cs : List Int, rowLen cs ≤ cs.length
 | [] => Nat.le_refl _
 | c :: cs => by
   have := rowLen_le cs
   simp only [rowLen, List.length_cons]
   split <;> (try split) <;> omega
theorem rowLen_snoc_zero : ∀ (cs : List Int) (c : Int), c = 0 → rowLen (cs ++ [c]) = rowLen cs
 | [], c, h => by simp [rowLen, h]
 | a :: cs, c, h => by simp only [List.cons_append, rowLen, rowLen_snoc_zero cs c h]
theorem rowLen_snoc : ∀ (cs : List Int) (c : Int), c ≠ 0 → rowLen (cs ++ [c]) = cs.length + 1
 | [], c, h => by simp [rowLen, h]
 | a :: cs, c, h => by simp only [List.cons_append, rowLen, rowLen_snoc cs c h, List.length_cons]; simp
theorem dot_more : ∀ (cs pre more : List Int), rowLen cs ≤ pre.length → dot cs (pre ++ more) = dot cs pre
 | [], _, _, _ => rfl
 | c :: cs, x :: pre, more, h => by
   have h' : rowLen cs ≤ pre.length := by
    simp only [rowLen, List.length_cons] at h
    split at h <;> omega
   simp only [List.cons_append, dot]
   rw [dot_more cs pre more h']
 | c :: cs, [], [], _ => by simp
 | c :: cs, [], x :: more, h => by
   simp only [rowLen, List.length_nil] at h
   split at h
   · split at h
     · rename_i h1 h2
       have ih := dot_more cs [] more (by simp; omega)
       simp only [List.nil_append, dot_nil] at ih
       simp [dot, h2, ih]
     · omega
   · omega
set_option maxRecDepth 100000 in
set_option maxHeartbeats 1000000 in
theorem rowLength_any (num : Int) (cs : List Int) (cv : Value) (w : World) (hc : IntsAt w cv cs) :
  Calls Tryz.prog 98 #[.agg #[.int .i64 num, cv]] w (Gives (.int .i64 (rowLen cs)) w) := by
 obtain ⟨p, cap, rfl, hcl, hcc⟩ := hc
 have HC := uH hcc
 clear hcc
 go_enter Tryz.func98, Tryz.ntmps98
 go_wp2
 go_loopw [3] (fun i wr => ∃ k : Nat, k ≤ cs.length ∧ i = .int .i64 k ∧ Hid (rowLen (cs.take k) = rowLen cs) ∧ Hid ((w.alloc (.cells #[.int .i64 num, .slice p cs.length cap] 86)).grownBy wr none)) (fun i _ => (intOf i).toNat)
 case atStart => exact ⟨cs.length, Nat.le_refl _, rfl, by show _ = _; rw [List.take_length], gR _ _⟩
 case round =>
  obtain ⟨k, hk, rfl, HR, HG⟩ := hrel
  by_cases hk0 : 0 < k
  · obtain ⟨m, rfl⟩ : ∃ m, k = m + 1 := ⟨k - 1, by omega⟩
    have hlt : m < cs.length := by omega
    have h0 := List.getElem?_eq_getElem hlt
    have hgw : w.grownBy wr none := gT (gA _ _ _) HG.out
    obtain ⟨d, doff, rfl, ⟨c1, c2⟩, hc'⟩ := HC.out m _ h0
    have hc'' := hgw.cell hc' (by simp)
    have hbox := HG.out.cell (a := ⟨w.heap.size, 1, none⟩) (v := .slice (some ⟨d, doff, none⟩) cs.length cap) (by simp) (by simp)
    have HT := uH (List.take_succ_eq_append_getElem hlt)
    generalize cs[m] = c at *
    have hI : (0 : Int) < ((m + 1 : Nat) : Int) := by omega
    have hI2 : ((m + 1 : Nat) : Int) - 1 < (cs.length : Int) := by omega
    have hI3 : ((m + 1 : Nat) : Int) - 1 = (m : Int) := by omega
    have hI4 : (m : Int) < (cs.length : Int) := by omega
    clear h0 hc' hgw
    go_wp2
    · have he : c = 0 := by have h : (c == 0) = true := (by assumption); simpa using h
      go_roundw
      case rel => exact ⟨m, by omega, rfl, by show _ = _; rw [← HR.out, HT.out, rowLen_snoc_zero _ _ he], HG.out⟩
      case measure => simp [intOf]
    · have he : c ≠ 0 := by have h : (c == 0) = false := (by assumption); simpa using h
      have hv : rowLen cs = m + 1 := by rw [← HR.out, HT.out, rowLen_snoc _ _ he, List.length_take]; omega
      go_ret
      exact ⟨ret_i64 (by rw [hv]), gT (gA _ _ _) HG.out⟩
  · obtain rfl : k = 0 := by omega
    go_wp2
    go_ret
    exact ⟨ret_i64 (by have := HR.out; rw [List.take_zero] at this; rw [← this]; rfl), gT (gA _ _ _) HG.out⟩
end Go.Proofs.YtgeklmigfhhpfaaGreatDoor
namespace Go.Proofs.YtgeklmigfhhpfaaGreatDoor
open Go.RowKit
attribute [local go_sem ↓] Go.wp_at_zero Go.wp_at_succ
def placeN (l : List SideD) (t : ByteArray × Int) : Nat := (firstI (sameName t.1) l).toNat
def coefsOf (l : List SideD) (ts : List (ByteArray × Int)) : List Int := ts.foldl (fun cs t => cs.set (placeN l t) t.2) (List.replicate l.length 0)
theorem coefs_snoc {l : List SideD} {ts : List (ByteArray × Int)} {k : Nat} {t : ByteArray × Int} (h : ts[k]? = some t) : coefsOf l (ts.take (k + 1)) = (coefsOf l (ts.take k)).set (placeN l t) t.2 := by
 obtain ⟨hk, rfl⟩ := List.getElem?_eq_some_iff.1 h
 unfold coefsOf
 rw [List.take_succ_eq_append_getElem hk, List.foldl_append]
 rfl
theorem foldl_set_length {l : List SideD} : ∀ (ts : List (ByteArray × Int)) (cs : List Int), (ts.foldl (fun cs t => cs.set (placeN l t) t.2) cs).length = cs.length
 | [], _ => rfl
 | t :: r, cs => by rw [List.foldl_cons, foldl_set_length r]; simp
theorem coefs_length (l : List SideD) (ts : List (ByteArray × Int)) : (coefsOf l ts).length = l.length := by
 unfold coefsOf
 rw [foldl_set_length]
 simp
theorem foldl_set_bound {l : List SideD} : ∀ (ts : List (ByteArray × Int)) (cs : List Int), (∀ t ∈ ts, -1000 ≤ t.2 ∧ t.2 ≤ 1000) → (∀ c ∈ cs, -1000 ≤ c ∧ c ≤ 1000) → ∀ c ∈ ts.foldl (fun cs t => cs.set (placeN l t) t.2) cs, -1000 ≤ c ∧ c ≤ 1000
 | [], _, _, h => h
 | t :: r, cs, ht, h => by
   rw [List.foldl_cons]
   refine foldl_set_bound r _ (fun t ht' => ht t (by simp [ht'])) fun c hc => ?_
   rcases List.mem_or_eq_of_mem_set hc with hc | rfl
   · exact h c hc
   · exact ht t (by simp)
theorem coefs_good {c : Int} {l : List SideD} {ts : List (ByteArray × Int)} (hf : formErr c ts = 0) : goodRow l.length (c, coefsOf l ts) := by
 obtain ⟨h1, _, h3, _⟩ := form_good hf
 refine ⟨coefs_length l ts, h1, foldl_set_bound ts _ (fun t ht => (h3 t ht).2) fun c hc => ?_⟩
 have := List.eq_of_mem_replicate hc
 omega
theorem firstI_lt {α : Type} {q : α → Bool} {l : List α} (h : l.any q = true) : ∃ k : Nat, firstI q l = k ∧ k < l.length := by
 unfold firstI
 cases hf : l.findIdx? q with
 | some k =>
   obtain ⟨hk, _⟩ := List.findIdx?_eq_some_iff_getElem.1 hf
   exact ⟨k, rfl, hk⟩
 | none =>
   rw [List.findIdx?_eq_none_iff] at hf
   rw [List.any_eq_true] at h
   obtain ⟨x, hx, hq⟩ := h
   rw [hf x hx] at hq
   cases hq
structure MadeRow (w0 w : World) (Rb Cb : Nat) (c : Int) (n : Nat) (cs : List Int) : Prop where
 grown : w0.grownBy w none
 newR : w0.heap.size + 2 ≤ Rb
 newC : w0.heap.size + 2 ≤ Cb
 ne : Rb ≠ Cb
 row : w.heap[Rb]? = some (.cells #[.int .i64 c, .slice (some ⟨Cb, 0, none⟩) n n] 86 (0, 0))
 cells : w.heap[Cb]? = some (.cells (cs.map (Value.int .i64)).toArray 3 (0, 0))
 len : cs.length = n
 res : w.heap[w0.heap.size + 1]? = some (.cells #[.int .i64 0, .slice none 0 0] 86 (0, 0))
theorem made_start1 (w : World) (v : Value) (c : Int) (n : Nat) :
  MadeRow w (((((w.alloc (.cells #[.int .i64 c, v] 35)).alloc (.cells #[.int .i64 0, .slice none 0 0] 86)).alloc (.cells (zeros n) 3)).alloc
   (.cells #[.int .i64 c, .slice (some ⟨w.heap.size + 1 + 1, 0, none⟩) n n] 86)).drew) (w.heap.size + 1 + 1 + 1) (w.heap.size + 1 + 1) c n (List.replicate n 0) := by
 have hh : (((((w.alloc (.cells #[.int .i64 c, v] 35)).alloc (.cells #[.int .i64 0, .slice none 0 0] 86)).alloc (.cells (zeros n) 3)).alloc
   (.cells #[.int .i64 c, .slice (some ⟨w.heap.size + 1 + 1, 0, none⟩) n n] 86)).drew).heap = (((w.heap.push (.cells #[.int .i64 c, v] 35)).push (.cells #[.int .i64 0, .slice none 0 0] 86)).push (.cells (zeros n) 3)).push
   (.cells #[.int .i64 c, .slice (some ⟨w.heap.size + 1 + 1, 0, none⟩) n n] 86) := rfl
 refine ⟨gT (gA _ _ _) (gT (gA _ _ _) (gT (gA _ _ _) (grown_ad _ _ _))), by omega, by omega, by omega, ?_, ?_, by simp, ?_⟩
 all_goals
  rw [hh]
  simp only [Array.getElem?_push, Array.size_push]
  repeat (first | rw [if_pos (by omega)] | rw [if_neg (by omega)])
  first | rfl | simp [zeros]
theorem made_start2 (w : World) (v : Value) (c : Int) (n : Nat) :
  MadeRow w (((((w.alloc (.cells #[.int .i64 c, v] 35)).alloc (.cells #[.int .i64 0, .slice none 0 0] 86)).alloc
   (.cells #[.int .i64 c, .slice (some ⟨w.heap.size + 1 + 1 + 1, 0, none⟩) n n] 86)).alloc (.cells (zeros n) 3)).drew) (w.heap.size + 1 + 1) (w.heap.size + 1 + 1 + 1) c n (List.replicate n 0) := by
 have hh : (((((w.alloc (.cells #[.int .i64 c, v] 35)).alloc (.cells #[.int .i64 0, .slice none 0 0] 86)).alloc
   (.cells #[.int .i64 c, .slice (some ⟨w.heap.size + 1 + 1 + 1, 0, none⟩) n n] 86)).alloc (.cells (zeros n) 3)).drew).heap = (((w.heap.push (.cells #[.int .i64 c, v] 35)).push (.cells #[.int .i64 0, .slice none 0 0] 86)).push
   (.cells #[.int .i64 c, .slice (some ⟨w.heap.size + 1 + 1 + 1, 0, none⟩) n n] 86)).push (.cells (zeros n) 3) := rfl
 refine ⟨gT (gA _ _ _) (gT (gA _ _ _) (gT (gA _ _ _) (grown_ad _ _ _))), by omega, by omega, by omega, ?_, ?_, by simp, ?_⟩
 all_goals
  rw [hh]
  simp only [Array.getElem?_push, Array.size_push]
  repeat (first | rw [if_pos (by omega)] | rw [if_neg (by omega)])
  first | rfl | simp [zeros]
theorem cell_box (w : World) (v : Value) (c : Int) (o1 o2 o3 : Obj) : (((((w.alloc (.cells #[.int .i64 c, v] 35)).alloc o1).alloc o2).alloc o3).drew).cell? ⟨w.heap.size, 1, none⟩ = some v :=
 (gT (gA _ _ _) (gT (gA _ _ _) (grown_ad _ _ none))).cell (by simp) (by simp)
theorem MadeRow.kept {w0 w w' : World} {Rb Cb : Nat} {c : Int} {n : Nat} {cs : List Int} (h : MadeRow w0 w Rb Cb c n cs) (hg : w.grownBy w' none) : MadeRow w0 w' Rb Cb c n cs := by
 have lt : ∀ {k : Nat} {o : Obj}, w.heap[k]? = some o → w'.heap[k]? = some o := fun hk => (hg.block _ (Array.getElem?_eq_some_iff.1 hk).1 (by simp)).trans hk
 exact ⟨gT h.grown hg, h.newR, h.newC, h.ne, lt h.row, lt h.cells, h.len, lt h.res⟩
theorem MadeRow.set {w0 w : World} {Rb Cb : Nat} {c : Int} {n : Nat} {cs : List Int} (h : MadeRow w0 w Rb Cb c n cs) (i : Nat) (z : Int) : MadeRow w0 (w.setCell ⟨Cb, i, none⟩ (.int .i64 z)) Rb Cb c n (cs.set i z) := by
 have hg := gS w Cb i (.int .i64 z)
 have h1 := h.newC
 have h2 := h.newR
 have lt : ∀ {k : Nat} {o : Obj}, w.heap[k]? = some o → k ≠ Cb → (w.setCell ⟨Cb, i, none⟩ (.int .i64 z)).heap[k]? = some o := fun hk hn => (hg.block _ (Array.getElem?_eq_some_iff.1 hk).1 (by simpa using hn)).trans hk
 refine ⟨gO h.grown hg (fun k hk => by cases hk; omega), h.newR, h.newC, h.ne, lt h.row h.ne, ?_, by simp [h.len], lt h.res (by omega)⟩
 show (w.heap.modify Cb _)[Cb]? = _
 rw [Array.getElem?_modify, if_pos rfl, h.cells]
 simp [List.map_set]
theorem MadeRow.cell {w0 w : World} {Rb Cb : Nat} {c : Int} {n : Nat} {cs : List Int} (h : MadeRow w0 w Rb Cb c n cs) {q : Nat} (hq : q < cs.length) : ∃ x, w.cell? ⟨Cb, q, none⟩ = some (.int .i64 x) ∧ w.frozen? ⟨Cb, q, none⟩ = false :=
 ⟨cs[q], by simp [World.cell?, h.cells, hq], by simp [World.frozen?, h.cells]⟩
def RowOfPost (c : Int) (n : Nat) (cs : List Int) (w : World) (e : Ending) (w' : World) : Prop :=
 ∃ Cb, e = .returned (.agg #[.int .i64 c, .slice (some ⟨Cb, 0, none⟩) n n]) ∧ w.heap.size ≤ Cb ∧ w'.heap[Cb]? = some (.cells (cs.map (Value.int .i64)).toArray 3 (0, 0)) ∧ w.grownBy w' none
theorem Tryz.infoRow2 : (Tryz.prog.info? 86).map (·.size) = some 2 := by kernel_rfl
theorem made_end {w0 w : World} {Rb Cb : Nat} {c : Int} {n : Nat} {cs : List Int} (h : MadeRow w0 w Rb Cb c n cs) :
  let w' := (w.setCell ⟨w0.heap.size + 1, 0, none⟩ (.int .i64 c)).setCell ⟨w0.heap.size + 1, 1, none⟩ (.slice (some ⟨Cb, 0, none⟩) n n)
  w'.heap[w0.heap.size + 1]? = some (.cells #[.int .i64 c, .slice (some ⟨Cb, 0, none⟩) n n] 86 (0, 0)) ∧ RowOfPost c n cs w0 (.returned (.agg #[.int .i64 c, .slice (some ⟨Cb, 0, none⟩) n n])) w' := by
 have hg : w.grownBy ((w.setCell ⟨w0.heap.size + 1, 0, none⟩ (.int .i64 c)).setCell ⟨w0.heap.size + 1, 1, none⟩ (.slice (some ⟨Cb, 0, none⟩) n n)) (some (w0.heap.size + 1)) := gT (gS _ _ _ _) (gS _ _ _ _)
 have hr := h.res
 have h1 := h.newC
 refine ⟨by simp [World.setCell, Array.getElem?_modify, hr], Cb, rfl, by omega, ?_, gO h.grown hg (fun k hk => by cases hk; omega)⟩
 exact (hg.block _ (Array.getElem?_eq_some_iff.1 h.cells).1 (by simp; omega)).trans h.cells
set_option maxRecDepth 100000 in
set_option maxHeartbeats 4000000 in
theorem rowOf_any (c : Int) (ts : List (ByteArray × Int)) (l : List SideD) (tv sv : Value) (w : World) (ht : TermsAt w tv ts) (hs : SidesAt w sv l) (hin : termsIn (namesOf l) ts = true) (hl8 : l.length ≤ 1000) :
  Calls Tryz.prog 56 #[.agg #[.int .i64 c, tv], sv] w (RowOfPost c l.length (coefsOf l ts) w) := by
 obtain ⟨p, cap, rfl, hl, hc⟩ := ht
 obtain ⟨ps, scap, rfl, ⟨hsl, hscc⟩, hsc⟩ := hs
 have H := uH hc
 have HN : Hid (SidesAt w (.slice ps l.length scap) l) := ⟨ps, scap, rfl, ⟨hsl, hscc⟩, hsc⟩
 have HIn := uH hin
 unfold maxLen at hl
 clear hc hsc hin
 have hmk := run_make_ints l.length (by omega)
 go_enter Tryz.func56, Tryz.ntmps56
 go_upto_region 1 with fail
 go_cut [5] (fun s5 wx => ∃ Rb Cb : Nat, s5 = .pointer (some ⟨Rb, 0, none⟩) ∧ Hid (MadeRow w wx Rb Cb c l.length (List.replicate l.length 0)) ∧ wx.cell? ⟨w.heap.size, 1, none⟩ = some (.slice p ts.length cap))
 case first =>
  go_region_law (fail)
  all_goals
   go_wp2_with fail
   go_meet
   case rel => first | exact ⟨_, _, rfl, made_start1 _ _ _ _, cell_box _ _ _ _ _ _⟩ | exact ⟨_, _, rfl, made_start2 _ _ _ _, cell_box _ _ _ _ _ _⟩
 case rest =>
  obtain ⟨Rb, Cb, rfl, HM, hbox⟩ := hcut
  go_wp2
  go_loopw [17] (fun i wr => ∃ k : Nat, k ≤ ts.length ∧ i = .int .i64 k ∧ Hid (MadeRow w wr Rb Cb c l.length (coefsOf l (ts.take k)))) (fun i _ => ts.length - (intOf i).toNat)
  case atStart => exact ⟨0, Nat.zero_le _, rfl, HM.out⟩
  case round =>
   obtain ⟨k, hk, rfl, HR⟩ := hrel
   by_cases hlt : k < ts.length
   · have h0 := List.getElem?_eq_getElem hlt
     obtain ⟨b, off, rfl, h3, h4, h5, h6, h7⟩ := (H.out k _ h0).kept HR.out.grown
     have hmem : containsB (namesOf l) (ts[k]).1 = true := List.all_eq_true.1 HIn.out _ (List.getElem_mem hlt)
     obtain ⟨q, hq, hql⟩ := firstI_lt (q := sameName (ts[k]).1) (l := l) (by rw [sameName_any]; exact hmem)
     have HS := uH (coefs_snoc (l := l) h0)
     have HQ := uH (show placeN l ts[k] = q by unfold placeN; rw [hq]; simp)
     have HF := uH hq
     have hr1 : wr.cell? ⟨Rb, 1, none⟩ = some (.slice (some ⟨Cb, 0, none⟩) l.length l.length) := by simp [World.cell?, HR.out.row]
     generalize hn : (ts[k]).1 = n at *
     generalize hz : (ts[k]).2 = z at *
     have hr1a := (gA wr (.cells #[.string n, .int .i64 z] 65) none).cell hr1 (by simp)
     have hI : (q : Int) < (l.length : Int) := by omega
     have hI0 : (0 : Int) ≤ (q : Int) := by omega
     have hM2 := uH (fun W (hg : wr.grownBy W none) => (HR.out.kept hg).cell (q := q) (by rw [coefs_length]; exact hql))
     have hne := HR.out.ne
     have hCl : Cb < wr.heap.size := (Array.getElem?_eq_some_iff.1 HR.out.cells).1
     clear h0 hn hz hmem hq
     go_wp2
     go_region_held3 (fun W => W.cell? ⟨Rb, 1, none⟩ = some (.slice (some ⟨Cb, 0, none⟩) l.length l.length) ∧ W.cell? ⟨wr.heap.size, 0, none⟩ = some (.string n) ∧ W.cell? ⟨wr.heap.size, 1, none⟩ = some (.int .i64 z)) (first | exact ⟨(gS w2 Cb q _).cell d1 (by simp; omega), (gS w2 Cb q _).cell d2 (by simp; omega), (gS w2 Cb q _).cell d3 (by simp; omega)⟩ | go_keep) (first
      | (go_at_call 105; refine (placeOf_any n _ l _ (HN.out.kept (gT HR.out.grown (grown_ad _ _ _)))).mono ?_; rintro e w2 ⟨rfl, hg2⟩; rw [HF.out]; have G2 := uH (gT (grown_ad _ _ _) hg2); have d1 := G2.out.cell hr1 (by simp); have d2 := hg2.cell (a := ⟨wr.heap.size, 0, none⟩) (v := .string n) (by simp) (by simp); have d3 := hg2.cell (a := ⟨wr.heap.size, 1, none⟩) (v := .int .i64 z) (by simp) (by simp); obtain ⟨x4, d4, d5⟩ := hM2.out w2 G2.out; clear hg2))
     go_wp2
     go_roundw
     case rel =>
      refine ⟨k + 1, by omega, by go_num, ?_⟩
      have hm := (HR.out.kept G2.out).set q z
      show MadeRow _ _ _ _ _ _ _
      rw [HS.out, HQ.out]
      exact hm
     case measure => simp [intOf]; omega
   · obtain rfl : k = ts.length := by omega
     have hr0 : wr.cell? ⟨Rb, 0, none⟩ = some (.int .i64 c) := by simp [World.cell?, HR.out.row]
     have hr1 : wr.cell? ⟨Rb, 1, none⟩ = some (.slice (some ⟨Cb, 0, none⟩) l.length l.length) := by simp [World.cell?, HR.out.row]
     have hs0 : wr.cell? ⟨w.heap.size + 1, 0, none⟩ = some (.int .i64 0) := by simp [World.cell?, HR.out.res]
     have hs1 : wr.cell? ⟨w.heap.size + 1, 1, none⟩ = some (.slice none 0 0) := by simp [World.cell?, HR.out.res]
     have hsf : ∀ k, wr.frozen? ⟨w.heap.size + 1, k, none⟩ = false := fun k => by simp [World.frozen?, HR.out.res]
     go_wp2
     have hm := HR.out
     rw [List.take_length] at hm
     obtain ⟨f1, f2⟩ := made_end hm
     exact bodyPost_end (results_cell_row rfl _ _ (w.heap.size + 1) _ _ _ _ rfl f1 Tryz.underlying86 rfl Tryz.infoRow2) rfl f2
end Go.Proofs.YtgeklmigfhhpfaaGreatDoor
