/-
 lists: its visit, where Image counts.
 lists: its visit, where Image counts.
 lists, where Image counts.
-/
import Derived.Test.YtfilcaolgfghcaaGreatSeen
import Derived.Test.YtfilcaolgfghcaaGreatEachM
import Derived.Test.YtfilcaolgfghcaaGreatIsPoint
namespace Go.Proofs.YtfilcaolgfghcaaGreat
open Go.RowKit
attribute [local go_sem ↓] Go.wp_at_zero Go.wp_at_succ

theorem pad_set {xs : List Int} {z : Int} (h : xs.length < 8) : (padL 8 xs).set xs.length z = padL 8 (xs ++ [z]) := by
  unfold padL
  rw [List.set_append_right _ _ (Nat.le_refl _), Nat.sub_self, List.append_assoc]
  congr 1
  rw [show 8 - xs.length = (8 - (xs ++ [z]).length) + 1 by simp; omega, List.replicate_succ]
  rfl
theorem pad_eight {xs : List Int} (h : xs.length ≤ 8) : ∃ a0 a1 a2 a3 a4 a5 a6 a7 : Int, padL 8 xs = [a0, a1, a2, a3, a4, a5, a6, a7] := by
  have hl := padL_length h
  match hp : padL 8 xs, hl with
  | [a0, a1, a2, a3, a4, a5, a6, a7], _ => exact ⟨a0, a1, a2, a3, a4, a5, a6, a7, rfl⟩

/-- The array that a visit fills. -/
structure ArrSt (w0 w : World) (A : Nat) (xs : List Int) : Prop where
  grown : w0.grownBy w none
  new : w0.heap.size ≤ A
  arr : w.heap[A]? = some (.cells ((padL 8 xs).map (Value.int .i64)).toArray 124 (0, 0))
theorem ArrSt.kept {w0 w w' : World} {A : Nat} {xs : List Int} (h : ArrSt w0 w A xs) (hg : w.grownBy w' none) : ArrSt w0 w' A xs := ⟨grownBy_trans h.grown hg, h.new, heap_keep h.arr hg (by simp)⟩
theorem ArrSt.set {w0 w : World} {A : Nat} {xs : List Int} {z : Int} (h : ArrSt w0 w A xs) (hl : xs.length < 8) : ArrSt w0 (w.setCell ⟨A, xs.length, none⟩ (.int .i64 z)) A (xs ++ [z]) := by
  have hg := grown_set w A xs.length (.int .i64 z)
  have hn := h.new
  refine ⟨grown_own h.grown hg (fun k hk => by cases hk; omega), hn, ?_⟩
  show (w.heap.modify A _)[A]? = _
  rw [Array.getElem?_modify, if_pos rfl, h.arr, ← pad_set hl]
  simp [List.map_set]
theorem ArrSt.cell {w0 w : World} {A : Nat} {xs : List Int} (h : ArrSt w0 w A xs) (hl : xs.length ≤ 8) {k : Nat} (hk : k < 8) : ∃ x, w.cell? ⟨A, k, none⟩ = some (.int .i64 x) ∧ w.frozen? ⟨A, k, none⟩ = false := by
  have e := padL_length hl
  exact ⟨(padL 8 xs)[k]'(by omega), by simp [World.cell?, h.arr, show k < (padL 8 xs).length by omega], by simp [World.frozen?, h.arr]⟩
theorem ArrSt.eight {w0 w : World} {A : Nat} {xs : List Int} {a0 a1 a2 a3 a4 a5 a6 a7 : Int} (h : ArrSt w0 w A xs) (he : padL 8 xs = [a0, a1, a2, a3, a4, a5, a6, a7]) : w.cell? ⟨A, 0, none⟩ = some (.int .i64 a0) ∧ w.cell? ⟨A, 1, none⟩ = some (.int .i64 a1) ∧ w.cell? ⟨A, 2, none⟩ = some (.int .i64 a2) ∧ w.cell? ⟨A, 3, none⟩ = some (.int .i64 a3) ∧ w.cell? ⟨A, 4, none⟩ = some (.int .i64 a4) ∧ w.cell? ⟨A, 5, none⟩ = some (.int .i64 a5) ∧ w.cell? ⟨A, 6, none⟩ = some (.int .i64 a6) ∧ w.cell? ⟨A, 7, none⟩ = some (.int .i64 a7) := by
  have ha := h.arr
  rw [he] at ha
  refine ⟨?_, ?_, ?_, ?_, ?_, ?_, ?_, ?_⟩ <;> simp [World.cell?, ha]
theorem ArrSt.vals {w0 w : World} {A : Nat} {xs : List Int} (h : ArrSt w0 w A xs) : ∀ j x, xs[j]? = some x → w.cell? ⟨A, 0 + j, none⟩ = some (.int .i64 x) := by
  intro j x hj
  obtain ⟨hj1, rfl⟩ := List.getElem?_eq_some_iff.1 hj
  simp [World.cell?, h.arr, padL, List.getElem?_append, hj1]
theorem arr_start (w : World) : ArrSt w (w.alloc (.cells #[.int .i64 0, .int .i64 0, .int .i64 0, .int .i64 0, .int .i64 0, .int .i64 0, .int .i64 0, .int .i64 0] 124)) w.heap.size [] :=
  ⟨World.grownBy_alloc _ _ _, Nat.le_refl _, heap_alloc_new _ _⟩

def fvImg (V : Nat) : Value := .func (.func 44) #[] #[.pointer (some ⟨V, 0, none⟩)]

/-- What lists' visits leave, where Image counts. -/
structure ListsI (V : Nat) (rs : List RowD) (kv : Value) (_ : Nat) (d : List (List Int)) (w : World) : Prop where
  rows : w.heap[V + 1 + 1]? = some (.cells #[kv] 75 (0, 0))
  fn : w.heap[V + 1 + 1 + 1]? = some (.cells #[fvImg V] 61 (0, 0))
  box : w.heap[V + 1 + 1 + 1 + 1 + 1]? = some (.cells #[.map (some (V + 1 + 1 + 1 + 1))] 123 (0, 0))
  seen : ∃ D, SeenAt w (V + 1 + 1 + 1 + 1) (distL rs d).length D ∧ SeenD rs.length D (distL rs d)
  many : w.heap[V]? = some (.cells #[.int .i64 (distL rs d).length] 3 (0, 0))

theorem ListsI.keep {V B : Nat} {rs : List RowD} {kv : Value} {d : List (List Int)} {w w' : World} {r : Option Nat} (h : ListsI V rs kv B d w) (hg : w.grownBy w' r) (hr : ∀ k, r = some k → ¬ (V ≤ k ∧ k < V + 6)) : ListsI V rs kv B d w' := by
  obtain ⟨D, h1, h2⟩ := h.seen
  have ne : ∀ k, V ≤ k → k < V + 6 → r ≠ some k := fun k a b e => hr k e ⟨a, b⟩
  exact ⟨heap_keep h.rows hg (ne _ (by omega) (by omega)), heap_keep h.fn hg (ne _ (by omega) (by omega)), heap_keep h.box hg (ne _ (by omega) (by omega)), ⟨D, World.ownsMap.kept h1 hg (ne (V + 1 + 1 + 1 + 1) (by omega) (by omega)).symm, h2⟩, heap_keep h.many hg (ne _ (by omega) (by omega))⟩
theorem listsI_steady {V Bb B : Nat} {rs : List RowD} {kv : Value} (h : V + 6 ≤ Bb) : Steady Bb (ListsI V rs kv B) := fun d w w' hi hg => hi.keep hg (fun k hk => by cases hk; omega)

end Go.Proofs.YtfilcaolgfghcaaGreat

namespace Go.Proofs.YtfilcaolgfghcaaGreat
open Go.RowKit
attribute [local go_sem ↓] Go.wp_at_zero Go.wp_at_succ

theorem image1_any (V : Nat) (m : Int) (c : Value) (w : World) (h : w.heap[V]? = some (.cells #[.int .i64 m] 3 (0, 0))) (h1 : 0 ≤ m) (h2 : m ≤ 1000000) :
    Calls Tryz.prog 44 #[c, .pointer (some ⟨V, 0, none⟩)] w (fun e w' => e = .returned (.bool true) ∧ w.grownBy w' (some V) ∧ w'.heap[V]? = some (.cells #[.int .i64 (m + 1)] 3 (0, 0))) := by
  obtain ⟨l0, l1⟩ := one_cell h
  have H := Lib.hid h
  clear h
  go_enter Tryz.func44, Tryz.ntmps44
  go_wp2
  go_ret
  exact ⟨rfl, grown_set w V 0 _, one_set H.out _⟩

theorem valsOf_good {n : Nat} {rs : List RowD} {pt : List Int} (hn : n ≤ 8) (hg : ∀ r ∈ rs, goodRow n r) (hl : pt.length ≤ n) (hb : near pt) : inI64 (valsOf rs pt) := by
  intro x hx
  obtain ⟨r, hr, rfl⟩ := List.mem_map.1 hx
  have h := dot_bound r.2 pt pt.length (hg r hr).2.2 hb
  rw [List.take_length] at h
  have h2 := (hg r hr).2.1
  unfold rowVal
  exact wf64 (by omega) (by omega)

set_option maxRecDepth 100000 in
set_option maxHeartbeats 4000000 in
theorem lists_visit {wE wp : World} {V Bb n : Nat} {rs : List RowD} {kv : Value} (hp : wp.grownBy wE none) (hpV : wp.heap.size ≤ V) (hk : RowLAt wp kv rs) (hg : ∀ r ∈ rs, goodRow n r) (hn : n ≤ 8) (hrs : rs.length ≤ 8) (hV : V + 5 < wE.heap.size) : VisitOkM wE V (V + 6) Bb n (ListsI V rs kv Bb) goOn := by
  intro d pt w h hb hd
  have hi : ListsI V rs kv Bb d w := h.inv
  have hx := h.ints (by omega) n n (Nat.le_refl _) (by rw [List.take_of_length_le (by rw [h.len]; exact Nat.le_refl _)]; exact hb)
  rw [List.take_of_length_le (by rw [h.len]; exact Nat.le_refl _)] at hx
  have hkw := hk.kept (h.framed.pre hp hpV)
  obtain ⟨p, cap, rfl, hlen, hc⟩ := hkw
  have HC := Lib.hid hc
  have HX := Lib.hid hx
  have HB := Lib.hid hb
  have HS := Lib.hid h
  have HI := Lib.hid hi
  have HG0 := Lib.hid hg
  have HL := Lib.hid (show pt.length ≤ n by rw [h.len]; exact Nat.le_refl _)
  have HVl := Lib.hid (show (valsOf rs pt).length = rs.length by simp [valsOf])
  have HW := Lib.hid (valsOf_good hn hg HL.out hb)
  have HD := Lib.hid (show (distL rs d).length ≤ 900000 by have := distL_len rs d []; simp only [distL]; simp at this; omega)
  have v0 := (one_cell hi.rows).1
  have v1 := (one_cell hi.box).1
  have v2 := (one_cell hi.fn).1
  have HA := Lib.hid (arr_start w)
  have v0a := HA.out.grown.cell v0 (by simp)
  clear h hb hd hi hx hk hg hc
  go_enter Tryz.func78, Tryz.ntmps78
  go_wp2
  go_loopw [11] (fun i wr => ∃ k : Nat, k ≤ rs.length ∧ i = .int .i64 k ∧ Hid (ArrSt w wr w.heap.size ((valsOf rs pt).take k))) (fun i _ => rs.length - (intOf i).toNat)
  case atStart => exact ⟨0, Nat.zero_le _, rfl, HA.out⟩
  case round =>
    obtain ⟨k, hk, rfl, HR⟩ := hrel
    have HG := Lib.hid HR.out.grown
    by_cases hlt : k < rs.length
    · have h0 := List.getElem?_eq_getElem hlt
      obtain ⟨b, off, cv, rfl, h1, h2, h3⟩ := (HC.out k _ h0).kept HG.out
      obtain ⟨pv, vcap, rfl, hvl, hvc⟩ := h3
      have h3 : IntsAt wr (.slice pv (rs[k]).2.length vcap) (rs[k]).2 := ⟨pv, vcap, rfl, hvl, hvc⟩
      have HT := Lib.hid (show (valsOf rs pt).take (k + 1) = (valsOf rs pt).take k ++ [rowVal rs[k] pt] by rw [List.take_succ_eq_append_getElem (by rw [HVl.out]; exact hlt)]; simp [valsOf])
      have HV := Lib.hid (fun W (hg : wr.grownBy W none) => rowValue_any n rs[k] (.slice pv (rs[k]).2.length vcap) (.slice (some ⟨Bb, 0, none⟩) n n) pt W (HG0.out _ (List.getElem_mem hlt)) (by omega) (h3.kept hg) (HX.out.kept (grownBy_trans HG.out hg)) HL.out HB.out)
      have HK := Lib.hid (show ((valsOf rs pt).take k).length = k by rw [List.length_take, HVl.out]; omega)
      generalize rowVal rs[k] pt = z at *
      generalize hc : (rs[k]).1 = c at *
      generalize hcl : (rs[k]).2.length = vl at *
      clear h0 h3 hc hcl hvl hvc
      go_wp2_with (first | (go_at_call 38; refine (HV.out _ (World.grownBy_alloc _ _ _)).mono ?_; rintro e w' ⟨rfl, hg1⟩; have HR2 := Lib.hid (HR.out.kept (grownBy_trans (World.grownBy_alloc _ _ _) hg1)); obtain ⟨x0, ca, cf⟩ := HR2.out.cell (by rw [HK.out]; omega) (show k < 8 by omega); clear hg1))
      go_roundw
      case rel => exact ⟨k + 1, by omega, by go_num, by rw [HT.out]; have := HR2.out.set (z := z) (by rw [HK.out]; omega); rw [HK.out] at this; exact this⟩
      case measure => simp [intOf]; omega
    · obtain rfl : k = rs.length := by omega
      have hR := HR.out
      rw [List.take_of_length_le (by rw [HVl.out]; exact Nat.le_refl _)] at hR
      have HRR := Lib.hid hR
      obtain ⟨a0, a1, a2, a3, a4, a5, a6, a7, he⟩ := pad_eight (xs := valsOf rs pt) (by rw [HVl.out]; exact hrs)
      obtain ⟨c0, c1, c2, c3, c4, c5, c6, c7⟩ := hR.eight he
      obtain ⟨D, hD1, hD2⟩ := HI.out.seen
      have hD3 : SeenAt wr _ _ D := World.ownsMap.kept hD1 HG.out (by simp)
      have hlook := SeenAt.look hD3 hD2 hrs HVl.out HW.out
      rw [he] at hlook
      simp only [List.map_cons, List.map_nil] at hlook
      have v0r := HG.out.cell v0 (by simp)
      have v1r := HG.out.cell v1 (by simp)
      have v2r := HG.out.cell v2 (by simp)
      by_cases hin : valsOf rs pt ∈ distL rs d
      · have HN := Lib.hid (show distL rs (d ++ [pt]) = distL rs d by rw [distL_snoc]; exact if_pos hin)
        rw [decide_eq_true hin] at hlook
        clear hR hD1 hD2 hD3 hin he
        go_wp2
        go_ret
        refine ⟨rfl, HS.out.framed.grown HG.out, HS.out.lo, HS.out.hi, heap_keep HS.out.buf HG.out (by simp), HS.out.len, ?_⟩
        have := HI.out.keep HG.out (by simp)
        obtain ⟨q1, q2, q3, q4, q5⟩ := this
        exact ⟨q1, q2, q3, by rw [HN.out]; exact q4, by rw [HN.out]; exact q5⟩
      · have HN := Lib.hid (show distL rs (d ++ [pt]) = distL rs d ++ [valsOf rs pt] by rw [distL_snoc]; exact if_neg hin)
        have HD2 := Lib.hid (seenD_step hrs hD2 HVl.out HW.out hin)
        obtain ⟨w2, hrun, hD4, hg2⟩ := SeenAt.enter hD3 (by have := HD.out; unfold maxLen; omega) hrs HVl.out HW.out
        rw [he] at hrun
        simp only [List.map_cons, List.map_nil] at hrun
        rw [decide_eq_false hin] at hlook
        have HD4 := Lib.hid hD4
        have HG2 := Lib.hid hg2
        have v0s := hg2.cell v0r (by simp)
        have v2s := hg2.cell v2r (by simp)
        unfold fvImg at v2s
        have HVs := Lib.hid (fun j x (hj : (valsOf rs pt)[j]? = some x) => hg2.cell (hR.vals j x hj) (by have := HS.out.framed.size; simp; omega))
        have HCl := Lib.hid (fun W (hg : w2.grownBy W none) => clone_any w.heap.size 0 8 (valsOf rs pt) W (by rw [HVl.out]; omega) (fun j x hj => hg.cell (HVs.out j x hj) (by simp)))
        rw [HVl.out] at HCl
        have HM := Lib.hid (heap_keep (heap_keep HI.out.many HG.out (by simp)) hg2 (by simp; omega))
        have hI8 : (rs.length : Int) ≤ 8 := by omega
        have hI0 : (0 : Int) ≤ (rs.length : Int) := by omega
        clear hR hD1 hD2 hD3 hin he hD4 hg2
        go_wp2
        go_region_law (first
          | (go_simp; go_at_call 79; go_must (refine (HCl.out _ (by first | exact grownBy_refl _ _ | exact grown_d _ _)).mono ?_; rintro e w3 ⟨cv, rfl, hown, hg3z⟩; have hg3 : w2.grownBy w3 none := (by first | exact hg3z | exact grownBy_trans (grown_d w2 none) hg3z); have HG3 := Lib.hid hg3; have HM3 := Lib.hid (heap_keep HM.out hg3 (by simp)); have v2t := hg3.cell v2s (by simp); have v0t := hg3.cell v0s (by simp); clear hown hg3 hg3z))
          | (go_simp; go_at_call 44; go_must (refine (image1_any V _ _ _ (by first | exact HM3.out | exact heap_keep HM3.out (grown_d _ none) (by simp)) (by omega) (by have := HD.out; omega)).mono ?_; rintro e w4 ⟨rfl, hg4, hm4⟩; have HG4 := Lib.hid hg4; have HM4 := Lib.hid hm4; clear hg4 hm4)))
        all_goals go_wp2
        all_goals go_ret
        all_goals
          have hfs := HS.out.framed.size
          have hlo := HS.out.lo
          have hhi := HS.out.hi
          have k1 : ∀ {k : Nat} {o : Obj}, w.heap[k]? = some o → k ≠ V + 1 + 1 + 1 + 1 → k ≠ V → w4.heap[k]? = some o := fun hk h1 h2 => heap_keep (heap_keep (heap_keep (heap_keep hk HG.out (by simp)) HG2.out (by simp; omega)) HG3.out (by simp)) HG4.out (by simp; omega)
          refine ⟨rfl, (((HS.out.framed.grown HG.out).more HG2.out (fun k hk => by cases hk; exact .inr ⟨by omega, by omega⟩)).grown HG3.out).more HG4.out (fun k hk => by cases hk; exact .inr ⟨by omega, by omega⟩), HS.out.lo, HS.out.hi, k1 HS.out.buf (by omega) (by omega), HS.out.len, ?_⟩
          refine ⟨k1 HI.out.rows (by omega) (by omega), k1 HI.out.fn (by omega) (by omega), k1 HI.out.box (by omega) (by omega), ⟨_, ?_, by rw [HN.out]; exact HD2.out⟩, ?_⟩
          · rw [HN.out, List.length_append, List.length_singleton]
            exact World.ownsMap.kept (World.ownsMap.kept HD4.out HG3.out (by simp)) HG4.out (by simp; omega)
          · rw [HN.out, List.length_append, List.length_singleton]
            exact HM4.out

end Go.Proofs.YtfilcaolgfghcaaGreat

namespace Go.Proofs.YtfilcaolgfghcaaGreat
open Go.RowKit
attribute [local go_sem ↓] Go.wp_at_zero Go.wp_at_succ

theorem five_objs (w : World) (a b c d e : Obj) (W : World) (h : W = ((((w.alloc a).alloc b).alloc c).alloc d).alloc e) :
    W.heap[w.heap.size + 1]? = some b ∧ W.heap[w.heap.size + 1 + 1]? = some c ∧ W.heap[w.heap.size + 1 + 1 + 1]? = some d ∧ W.heap[w.heap.size + 1 + 1 + 1 + 1]? = some e ∧ w.grownBy W none ∧ W.heap.size = w.heap.size + 5 := by
  subst h
  refine ⟨?_, ?_, ?_, ?_, grownBy_trans (World.grownBy_alloc _ _ _) (grownBy_trans (World.grownBy_alloc _ _ _) (grownBy_trans (World.grownBy_alloc _ _ _) (grownBy_trans (World.grownBy_alloc _ _ _) (World.grownBy_alloc _ _ _)))), by simp⟩
  · show (((((w.heap.push _).push _).push _).push _).push _)[w.heap.size + 1]? = _
    simp only [Array.getElem?_push, Array.size_push]
    rw [if_neg (by omega), if_neg (by omega), if_neg (by omega), if_pos trivial]
  · show (((((w.heap.push _).push _).push _).push _).push _)[w.heap.size + 1 + 1]? = _
    simp only [Array.getElem?_push, Array.size_push]
    rw [if_neg (by omega), if_neg (by omega), if_pos trivial]
  · show (((((w.heap.push _).push _).push _).push _).push _)[w.heap.size + 1 + 1 + 1]? = _
    simp only [Array.getElem?_push, Array.size_push]
    rw [if_neg (by omega), if_pos trivial]
  · show (((((w.heap.push _).push _).push _).push _).push _)[w.heap.size + 1 + 1 + 1 + 1]? = _
    simp only [Array.getElem?_push, Array.size_push]
    rw [if_pos trivial]

set_option maxHeartbeats 4000000 in
theorem listsI_any (S : List SideD × List CondD) (sv kv kr : Value) (rs : List RowD) (V : Nat) (wp w : World) (hs : SidesAt wp sv S.1) (hk : RowLAt wp kv (rowsOf S)) (hgood : setErr S = 0) (hkr : RowLAt wp kr rs) (hrg : ∀ r ∈ rs, goodRow S.1.length r) (hr8 : rs.length ≤ 8)
    (hp : wp.grownBy w none) (hpV : wp.heap.size ≤ V) (hV : V + 1 = w.heap.size) (hm : w.heap[V]? = some (.cells #[.int .i64 0] 3 (0, 0))) :
    Calls Tryz.prog 43 #[.agg #[sv, kv], kr, fvImg V] w (fun e w' => e = .returned (.bool true) ∧ wp.grownBy w' none ∧ w'.heap[V]? = some (.cells #[.int .i64 (distL rs (pointsFrom S [] S.1)).length] 3 (0, 0))) := by
  have hn8 := (set_good hgood).1
  obtain ⟨p, cap, rfl, ⟨hsl, hscc⟩, hsc⟩ := id hs
  obtain ⟨pk, kcap, rfl, hkl, hkc⟩ := id hk
  obtain ⟨pr, rcap, rfl, hrl, hrc⟩ := id hkr
  have hmm := @run_makeMap Tryz.prog
  obtain ⟨q1, q2, q3, q4, q5, q6⟩ := five_objs w (.cells #[.slice p S.1.length cap, .slice pk (rowsOf S).length kcap] 77) (.cells #[.slice pr rs.length rcap] 75) (.cells #[fvImg V] 61) (.map #[] 0) (.cells #[.map (some (w.heap.size + 1 + 1 + 1))] 123) _ rfl
  have hsn : SeenAt (((((w.alloc (.cells #[.slice p S.1.length cap, .slice pk (rowsOf S).length kcap] 77)).alloc (.cells #[.slice pr rs.length rcap] 75)).alloc (.cells #[fvImg V] 61)).alloc (.map #[] 0)).alloc (.cells #[.map (some (w.heap.size + 1 + 1 + 1))] 123)) (V + 1 + 1 + 1 + 1) 0 (.map []) := by
    have h := World.ownsMap_made (H := Unit) (((w.alloc (.cells #[.slice p S.1.length cap, .slice pk (rowsOf S).length kcap] 77)).alloc (.cells #[.slice pr rs.length rcap] 75)).alloc (.cells #[fvImg V] 61)) Tryz.prog 124 (plainElem Tryz.prog 4)
    rw [show (((w.alloc (.cells #[.slice p S.1.length cap, .slice pk (rowsOf S).length kcap] 77)).alloc (.cells #[.slice pr rs.length rcap] 75)).alloc (.cells #[fvImg V] 61)).heap.size = V + 1 + 1 + 1 + 1 by simp; omega] at h
    exact World.ownsMap.alloc h _
  have HQ := Lib.hid q5
  have HP := Lib.hid (grownBy_trans hp q5)
  have H := Lib.hid (eachM_any S (.slice p S.1.length cap) (.slice pk (rowsOf S).length kcap) V (V + 6) (ListsI V rs (.slice pr rs.length rcap)) goOn wp _ hs hk hgood (grownBy_trans hp q5) hpV (by omega)
    (fun _ => ⟨by rw [← hV] at q1 ⊢; exact q1, by rw [← hV] at q2 ⊢; exact q2, by rw [← hV] at q4 ⊢; exact q4, ⟨_, hsn, seenD_start _⟩, heap_keep hm q5 (by simp)⟩)
    (fun Bb hB => listsI_steady (by omega)) (fun wE Bb hg hB => lists_visit (grownBy_trans hp (grownBy_trans q5 hg)) hpV hkr hrg hn8 hr8 (by have := hg.size; omega)))
  unfold fvM at H
  rw [hV] at H
  clear q1 q2 q3 q4 q5 hs hk hkr hkc hrc hsc hp hsn
  go_enter Tryz.func43, Tryz.ntmps43
  go_wp2_with (first
    | (go_at_call 36; go_must (refine H.out.mono ?_; rintro e w2 ⟨rfl, hf, Bb, _, hi⟩; rw [walkP_on, List.nil_append] at hi; have HF := Lib.hid hf; have HI := Lib.hid hi.many; rw [walkP_on]; clear hf hi)))
  go_ret
  exact ⟨rfl, HF.out.pre HP.out hpV, HI.out⟩

end Go.Proofs.YtfilcaolgfghcaaGreat
