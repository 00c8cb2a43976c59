/-
 The checker's arrays.
-/
import Derived.Deep.RegionHeld3
import Derived.Deep.DeepMust
import Derived.StillTailTactics
import Derived.Test.YtblpknkgjkbacaaGreatDoorQ17
namespace Go.Proofs.YtblpknkgjkbacaaGreatDoor
set_option linter.unusedVariables false
open Go.RowKit Go.Maps Go.WideMaps
variable {w w' : World} {C Bd Bs Bl : Nat} {cells : Int}
/-- An array: its name, its sizes. -/
abbrev ArrayD := ByteArray × List Int
/-- How many cells. -/
def cellsN (xs : List Int) : Int := xs.foldl (· * ·) 1
def sizesBad (xs : List Int) : Bool := xs.any fun n => decide (n < 1 ∨ 20000 < n)
/-- What is wrong with an array; the table of arrays and the cells then. -/
def arrayR (D : Table) (cells : Int) (a : ArrayD) : Int × Table × Int :=
  if nameB a.1 = false then (5, D, cells)
  else if has D (strL a.1) = true then (6, D, cells)
  else if a.2.length = 0 then (8, D, cells)
  else if 4 < a.2.length then (2, D, cells)
  else if sizesBad a.2 = true then (1, D, cells)
  else (if 20000 < cells + cellsN a.2 then 12 else 0, D.put (strL a.1) (lit64 a.2.length), cells + cellsN a.2)
def arraysR (D : Table) (cells : Int) : List ArrayD → Int × Table × Int
  | [] => (0, D, cells)
  | a :: r => if (arrayR D cells a).1 = 0 then arraysR (arrayR D cells a).2.1 (arrayR D cells a).2.2 r else arrayR D cells a
theorem arraysR_drop {D : Table} {cells : Int} {l : List ArrayD} {k : Nat} {a : ArrayD} (h : l[k]? = some a) : arraysR D cells (l.drop k) = if (arrayR D cells a).1 = 0 then arraysR (arrayR D cells a).2.1 (arrayR D cells a).2.2 (l.drop (k + 1)) else arrayR D cells a := by
  obtain ⟨hk, rfl⟩ := List.getElem?_eq_some_iff.1 h
  rw [List.drop_eq_getElem_cons hk]
  rfl
theorem pow_small {n : Nat} (h : n ≤ 4) : (20000 : Int) ^ n ≤ 160000000000000000 := by
  match n, h with
  | 0, _ => decide
  | 1, _ => decide
  | 2, _ => decide
  | 3, _ => decide
  | 4, _ => decide
theorem cellsN_step (xs : List Int) (k : Nat) (x : Int) (h : xs[k]? = some x) : cellsN (xs.take (k + 1)) = cellsN (xs.take k) * x := by
  obtain ⟨hk, rfl⟩ := List.getElem?_eq_some_iff.1 h
  unfold cellsN
  rw [List.take_succ_eq_append_getElem hk, List.foldl_append]
  rfl
theorem cellsN_bound : ∀ (k : Nat) (xs : List Int), sizesBad xs = false → k ≤ xs.length → 1 ≤ cellsN (xs.take k) ∧ cellsN (xs.take k) ≤ 20000 ^ k
  | 0, xs, _, _ => by simp [cellsN]
  | k + 1, xs, h, hk => by
    obtain ⟨h1, h2⟩ := cellsN_bound k xs h (by omega)
    have h0 := List.getElem?_eq_getElem (show k < xs.length by omega)
    rw [cellsN_step xs k _ h0]
    have hx : ¬ (xs[k] < 1 ∨ 20000 < xs[k]) := by
      intro hb
      have : sizesBad xs = true := List.any_eq_true.2 ⟨_, List.getElem_mem (show k < xs.length by omega), by simpa using hb⟩
      rw [this] at h
      cases h
    generalize xs[k] = x at *
    generalize cellsN (xs.take k) = c at *
    refine ⟨?_, ?_⟩
    · have : 1 * 1 ≤ c * x := Int.mul_le_mul h1 (by omega) (by omega) (by omega)
      omega
    · rw [Int.pow_succ]
      exact Int.mul_le_mul h2 (by omega) (by omega) (by omega)
set_option maxRecDepth 100000 in
set_option maxHeartbeats 4000000 in
theorem cellsOf_any (name : ByteArray) (xs : List Int) (v : Value) (w : World) (hv : IntsAt w v xs) (hb : sizesBad xs = false) (hl : xs.length ≤ 4) :
    Calls Tryz.prog 108 #[.agg #[.string name, v]] w (Gives (.int .i64 (cellsN xs)) w) := by
  obtain ⟨p, cap, rfl, hlen, hc⟩ := hv
  have HC := Lib.hid hc
  have HB := Lib.hid hb
  have HP := Lib.hid (fun k hk => cellsN_bound k xs hb hk)
  have hlI : (xs.length : Int) ≤ 9223372036854775807 := by omega
  have HG0 := Lib.hid (World.grownBy_alloc w (.cells #[.string name, .slice p xs.length cap] 129) none)
  obtain ⟨x0, x1, xf⟩ := cell_of_two (heap_alloc_new w (.cells #[.string name, .slice p xs.length cap] 129))
  clear hc hb
  go_enter Tryz.func108, Tryz.ntmps108
  go_wp2
  go_loopw [3, 9] (fun c i wr => ∃ k : Nat, k ≤ xs.length ∧ i = .int .i64 k ∧ c = .int .i64 (cellsN (xs.take k)) ∧ Hid (w.grownBy wr none)) (fun _ i _ => xs.length - (intOf i).toNat)
  case atStart => exact ⟨0, Nat.zero_le _, rfl, rfl, HG0.out⟩
  case round =>
    obtain ⟨k, hk, rfl, rfl, HG⟩ := hrel
    by_cases hlt : k < xs.length
    · have h0 := List.getElem?_eq_getElem hlt
      obtain ⟨b, off, rfl, hr, h1⟩ := HC.out k _ h0
      have h1w := HG.out.cell h1 (by simp)
      have hst := cellsN_step xs k _ h0
      obtain ⟨b1, b2⟩ := HP.out (k + 1) hlt
      have hp := pow_small (show k + 1 ≤ 4 by omega)
      rw [hst] at b1 b2
      have HST := Lib.hid hst
      generalize xs[k] = x at *
      generalize hc : cellsN (xs.take k) = c at *
      have hw : IntKind.i64.wrap (c * x) = c * x := wrap_near (by omega)
      have hkI : (k : Int) < (xs.length : Int) := by omega
      clear h0 h1 hst b1 b2 hp
      go_wp2
      go_roundw
      case rel => exact ⟨k + 1, by omega, by go_num, by rw [HST.out], HG.out⟩
      case measure => simp [intOf]; omega
    · obtain rfl : k = xs.length := by omega
      rw [List.take_length]
      go_wp2
      go_ret
      exact ⟨rfl, HG.out⟩
/-- The checker, as arrays are checked. -/
structure EnvA (C Bd Bs Bl : Nat) (cells : Int) (D : Table) (m : Nat) (w : World) : Prop where
  chk : ChkAt w C Bd Bs Bl cells 0
  dims : ∃ k, MapAt w Bd k D ∧ k ≤ m
  tab : ∃ X, TabIs D X
  sts : NamesAt w Bs (fun _ => false) 0
  loops : NamesAt w Bl (fun _ => false) 0
  ne : Bd ≠ Bs ∧ Bd ≠ Bl ∧ Bs ≠ Bl
theorem EnvA.kept {D : Table} {m : Nat} (h : EnvA C Bd Bs Bl cells D m w) (hg : w.grownBy w' none) : EnvA C Bd Bs Bl cells D m w' := by
  obtain ⟨k, h1, h2⟩ := h.dims
  exact ⟨heap_keep h.chk hg (by simp), ⟨k, World.ownsMap.kept h1 hg (by simp), h2⟩, h.tab, h.sts.kept hg (by simp), h.loops.kept hg (by simp), h.ne⟩
theorem sizesBad_step {xs : List Int} {k : Nat} {x : Int} (h : xs[k]? = some x) : sizesBad (xs.take (k + 1)) = (sizesBad (xs.take k) || decide (x < 1 ∨ 20000 < x)) := by
  obtain ⟨hk, rfl⟩ := List.getElem?_eq_some_iff.1 h
  unfold sizesBad
  rw [List.take_succ_eq_append_getElem hk, List.any_append]
  simp
theorem sizesBad_of {xs : List Int} {k : Nat} {x : Int} (h : xs[k]? = some x) (hx : x < 1 ∨ 20000 < x) : sizesBad xs = true := by
  obtain ⟨hk, rfl⟩ := List.getElem?_eq_some_iff.1 h
  exact List.any_eq_true.2 ⟨_, List.getElem_mem hk, by simpa using hx⟩
theorem chk_set1 {C Bd Bs Bl : Nat} {cells steps : Int} (h : ChkAt w C Bd Bs Bl cells steps) (v : Value) : (w.setCell ⟨C, 1, none⟩ v).heap[C]? = some (.cells #[.map (some Bd), v, .map (some Bs), .map (some Bl), .int .i64 steps] 139 (0, 0)) := by
  unfold ChkAt at h
  simp [World.setCell, Array.getElem?_modify, h]
/-- A call that checks an array. -/
def ChecksA (C Bd Bs Bl : Nat) (m : Nat) (r : Int × Table × Int) (w : World) (e : Ending) (w' : World) : Prop :=
  e = .returned (.int .i64 r.1) ∧ But C Bd Bd w w' ∧ EnvA C Bd Bs Bl r.2.2 r.2.1 m w'
set_option maxRecDepth 100000 in
set_option maxHeartbeats 8000000 in
theorem chkArray_any (name : ByteArray) (xs : List Int) (v : Value) (w0 w : World) (D : Table) (m : Nat) (hE : EnvA C Bd Bs Bl cells D m w) (hm : m ≤ 900) (h0 : w0.grownBy w none) (hC : w0.heap.size ≤ C) (hB : w0.heap.size ≤ Bd) (hn : name.size ≤ maxLen) (hv : IntsAt w0 v xs) (hc0 : 0 ≤ cells) (hc1 : cells ≤ 20000) :
    Calls Tryz.prog 82 #[.pointer (some ⟨C, 0, none⟩), .agg #[.string name, v]] w (ChecksA C Bd Bs Bl (m + 1) (arrayR D cells (name, xs)) w) := by
  obtain ⟨p, cap, rfl, hlen, -⟩ := id hv
  have HV := Lib.hid hv
  have HE := Lib.hid hE
  have H0 := Lib.hid h0
  obtain ⟨kd, hmap, hkm⟩ := hE.dims
  obtain ⟨Xd, htab⟩ := hE.tab
  have HM := Lib.hid hmap
  have HT := Lib.hid htab
  have hg := World.grownBy_alloc w (.cells #[.string name, .slice p xs.length cap] 129) none
  have HG0 := Lib.hid hg
  have HBx := Lib.hid (heap_alloc_new w (.cells #[.string name, .slice p xs.length cap] 129))
  have HE1 := Lib.hid (HE.out.kept hg)
  have hlI : (xs.length : Int) ≤ 1000000 := by omega
  have hCw : C < w.heap.size := (Array.getElem?_eq_some_iff.1 hE.chk).1
  have hBw : Bd < w.heap.size := World.ownsMap.lt hmap
  clear hE hmap htab hv h0
  go_enter Tryz.func82, Tryz.ntmps82
  go_upto_region 1 with fail
  have hlk : (Instr.lookup 73 (.map (some Bd)) (.string name) true).run Tryz.prog (w.alloc (.cells #[.string name, .slice p xs.length cap] 129)).drew = .ok (.tuple #[.int .i64 (Xd name), .bool (has D (strL name))]) (w.alloc (.cells #[.string name, .slice p xs.length cap] 129)).drew := tot_ok (World.ownsMap.kept HM.out (grownBy_trans HG0.out (grown_drew _ none)) (by simp)) HT.out hn
  obtain ⟨x0, x1, xf⟩ := cell_of_two HBx.out
  obtain ⟨c0, c1, c2, c3, c4, cf⟩ := HE1.out.chk.cells
  generalize hw1 : w.alloc (.cells #[.string name, .slice p xs.length cap] 129) = w1 at *
  go_region_held3 (fun W => W.cell? ⟨C, 0, none⟩ = some (.map (some Bd)) ∧ W.cell? ⟨w.heap.size, 0, none⟩ = some (.string name) ∧ (Instr.lookup 73 (.map (some Bd)) (.string name) true).run Tryz.prog W = .ok (.tuple #[.int .i64 (Xd name), .bool (has D (strL name))]) W) (first
    | exact ⟨c0, x0, hlk⟩
    | go_keep) (fail)
  generalize hw2 : w1.drew = w2 at *
  have HG2 : Hid (w.grownBy w2 none) := by rw [← hw2]; exact grownBy_trans HG0.out (grown_drew _ none)
  have HE2 := Lib.hid (HE.out.kept HG2.out)
  have HB2 : Hid (w2.heap[w.heap.size]? = some (.cells #[.string name, .slice p xs.length cap] 129 (0, 0))) := by rw [← hw2]; exact HBx.out
  obtain ⟨x0, x1, xf⟩ := cell_of_two HB2.out
  obtain ⟨c0, c1, c2, c3, c4, cf⟩ := HE2.out.chk.cells
  have HM2 : Hid (MapAt w2 Bd kd D) := World.ownsMap.kept HM.out HG2.out (by simp)
  clear hlk hw2 hw1 HE1 HBx HG0 hg
  have HX0 : Hid (∀ r : Int × Table × Int, r.2 = (D, cells) → But C Bd Bd w w2 ∧ EnvA C Bd Bs Bl r.2.2 r.2.1 (m + 1) w2) := fun r hr => by
    rw [hr]
    obtain ⟨h1, ⟨k, h2, h3⟩, h4, h5, h6, h7⟩ := HE2.out
    exact ⟨But.of_grown HG2.out, h1, ⟨k, h2, by omega⟩, h4, h5, h6, h7⟩
  cases hnb : nameB name with
  | false =>
    have HR : Hid (arrayR D cells (name, xs) = (5, D, cells)) := by show _ = _; unfold arrayR; rw [if_pos hnb]
    go_wp2_with (go_at_call 35; go_must (refine (isName_any _ _ hn).mono ?_; rintro e w3 ⟨rfl, rfl⟩; rw [hnb]))
    go_ret
    exact ⟨by rw [HR.out]; rfl, by rw [HR.out]; exact (HX0.out _ rfl)⟩
  | true =>
  have HN : Hid (arrayR D cells (name, xs) = if has D (strL name) = true then (6, D, cells) else if xs.length = 0 then (8, D, cells) else if 4 < xs.length then (2, D, cells) else if sizesBad xs = true then (1, D, cells) else (if 20000 < cells + cellsN xs then 12 else 0, D.put (strL name) (lit64 xs.length), cells + cellsN xs)) := by show _ = _; unfold arrayR; rw [if_neg (by simp [hnb])]
  cases hh : has D (strL name) with
  | true =>
    have HR : Hid (arrayR D cells (name, xs) = (6, D, cells)) := HN.out.trans (by rw [if_pos hh])
    go_wp2_with (go_at_call 35; go_must (refine (isName_any _ _ hn).mono ?_; rintro e w3 ⟨rfl, rfl⟩; rw [hnb]))
    go_ret
    exact ⟨by rw [HR.out]; rfl, by rw [HR.out]; exact (HX0.out _ rfl)⟩
  | false =>
  by_cases hl0 : xs.length = 0
  · have HR : Hid (arrayR D cells (name, xs) = (8, D, cells)) := HN.out.trans (by rw [if_neg (by simp [hh]), if_pos hl0])
    go_wp2_with (go_at_call 35; go_must (refine (isName_any _ _ hn).mono ?_; rintro e w3 ⟨rfl, rfl⟩; rw [hnb]))
    go_ret
    exact ⟨by rw [HR.out]; rfl, by rw [HR.out]; exact (HX0.out _ rfl)⟩
  have hl0b : ((xs.length : Int) == 0) = false := by simpa using hl0
  by_cases hl4 : 4 < xs.length
  · have HR : Hid (arrayR D cells (name, xs) = (2, D, cells)) := HN.out.trans (by rw [if_neg (by simp [hh]), if_neg hl0, if_pos hl4])
    have hl4I : (4 : Int) < (xs.length : Int) := by omega
    go_wp2_with (go_at_call 35; go_must (refine (isName_any _ _ hn).mono ?_; rintro e w3 ⟨rfl, rfl⟩; rw [hnb]))
    go_ret
    exact ⟨by rw [HR.out]; rfl, by rw [HR.out]; exact (HX0.out _ rfl)⟩
  have hl4I : ¬ (4 : Int) < (xs.length : Int) := by omega
  have HS : Hid (arrayR D cells (name, xs) = if sizesBad xs = true then (1, D, cells) else (if 20000 < cells + cellsN xs then 12 else 0, D.put (strL name) (lit64 xs.length), cells + cellsN xs)) := HN.out.trans (by rw [if_neg (by simp [hh]), if_neg hl0, if_neg hl4])
  go_upto_region 11 with (go_at_call 35; go_must (refine (isName_any _ _ hn).mono ?_; rintro e w3 ⟨rfl, rfl⟩; rw [hnb]))
  have HVw := Lib.hid (HV.out.kept (grownBy_trans H0.out HG2.out))
  go_loopw [8, 39] (fun c i wr => ∃ k : Nat, k ≤ xs.length ∧ i = .int .i64 k ∧ wr = w2 ∧ Hid (sizesBad (xs.take k) = false)) (fun _ i _ => xs.length - (intOf i).toNat)
  case atStart => exact ⟨0, Nat.zero_le _, rfl, rfl, by show _ = _; simp [sizesBad]⟩
  case round =>
    obtain ⟨k, hk, rfl, rfl, HK⟩ := hrel
    by_cases hlt : k < xs.length
    · have hx0 := List.getElem?_eq_getElem hlt
      obtain ⟨p', cap', hv', -, hcell⟩ := HVw.out
      cases hv'
      obtain ⟨b, off, rfl, hr, h1⟩ := hcell k _ hx0
      have HB1 := Lib.hid (sizesBad_step hx0)
      have HBf := Lib.hid (fun h => sizesBad_of hx0 h)
      generalize xs[k] = x at *
      have hkI : (k : Int) < (xs.length : Int) := by omega
      clear hx0 hcell
      by_cases hbad : x < 1 ∨ 20000 < x
      · have HR : Hid (arrayR D cells (name, xs) = (1, D, cells)) := HS.out.trans (by rw [if_pos (HBf.out hbad)])
        go_wp2
        all_goals first
          | (go_ret; exact ⟨by rw [HR.out]; rfl, by rw [HR.out]; exact (HX0.out _ rfl)⟩)
          | (exfalso; omega)
      · have HNx : Hid (sizesBad (xs.take (k + 1)) = false) := by show _ = _; rw [HB1.out, HK.out]; simpa using hbad
        have hb1 : ¬ x < 1 := by omega
        have hb2 : ¬ 20000 < x := by omega
        go_wp2
        go_roundw
        case rel => exact ⟨k + 1, by omega, by go_num, (by first | rfl | trivial), HNx.out⟩
        case measure => simp [intOf]; omega
    · obtain rfl : k = xs.length := by omega
      have hsb := HK.out
      rw [List.take_length] at hsb
      have HR := Lib.hid (HS.out.trans (if_neg (by simp [hsb])))
      obtain ⟨cb1, cb2⟩ := cellsN_bound xs.length xs hsb (Nat.le_refl _)
      rw [List.take_length] at cb1 cb2
      have cb3 := pow_small (show xs.length ≤ 4 by omega)
      have HCo := Lib.hid (fun (W : World) (hW : IntsAt W (.slice p xs.length cap) xs) => cellsOf_any name xs (.slice p xs.length cap) W hW hsb (by omega))
      clear hsb HS HN
      go_upto_region 16 with fail
      go_still_tail 9, (by kernel_rfl)
      change wpList _ _ _ _ _ wr.drew
      have HGd := Lib.hid (grownBy_trans HG2.out (grown_drew wr none))
      have HEd := Lib.hid (HE2.out.kept (grown_drew wr none))
      have HBd : Hid (wr.drew.heap[w.heap.size]? = some (.cells #[.string name, .slice p xs.length cap] 129 (0, 0))) := HB2.out
      have HMd : Hid (MapAt wr.drew Bd kd D) := World.ownsMap.kept HM2.out (grown_drew wr none) (by simp)
      have HVd := Lib.hid (HVw.out.kept (grown_drew wr none))
      clear HG2 HE2 HB2 HM2 HVw HX0
      generalize wr.drew = w3 at *
      obtain ⟨x0, x1, xf⟩ := cell_of_two HBd.out
      obtain ⟨c0, c1, c2, c3, c4, cf⟩ := HEd.out.chk.cells
      go_upto_region 17 with (at_mapUpdate; refine wpList_mapUpdate_own _ rfl _ _ _ 73 rfl 9 3 Tryz.lawStr Tryz.underlying73 _ Bd kd D rfl HMd.out (lt_maxLen _ (by omega)) _ _ _ rfl rfl (key_str hn) _ [] (plainElem_int Tryz.underlying3 (wf64 (by omega) (by omega))) ?_; intro w4 hown hg4; have HO4 := Lib.hid hown; have HG4 := Lib.hid hg4; clear hown hg4)
      have hCB : C ≠ Bd := fun e => by
        subst e
        obtain ⟨a, b, h1⟩ := MapAt.obj HMd.out
        have h2 := HEd.out.chk
        unfold ChkAt at h2
        rw [h1] at h2
        cases h2
      have hXB : w.heap.size ≠ Bd := by omega
      have HC4 := Lib.hid (heap_keep HEd.out.chk HG4.out (by simp; omega))
      have HB4 := Lib.hid (heap_keep HBd.out HG4.out (by simp; omega))
      have HV4 := Lib.hid (HV.out.kept (grown_own (grownBy_trans H0.out HGd.out) HG4.out (fun i hi => by cases hi; exact hB)))
      have HS4 := Lib.hid (HEd.out.sts.kept HG4.out (by have := HEd.out.ne; simp; omega))
      have HL4 := Lib.hid (HEd.out.loops.kept HG4.out (by have := HEd.out.ne; simp; omega))
      obtain ⟨x0, x1, xf⟩ := cell_of_two HB4.out
      obtain ⟨c0, c1, c2, c3, c4, cf⟩ := ChkAt.cells HC4.out
      have hsum : IntKind.i64.wrap (cells + cellsN xs) = cells + cellsN xs := wrap_near (by omega)
      have HS0 : Hid ((fun W => W.cell? ⟨C, 1, none⟩ = some (.int .i64 cells) ∧ W.cell? ⟨w.heap.size, 0, none⟩ = some (.string name) ∧ W.cell? ⟨w.heap.size, 1, none⟩ = some (.slice p xs.length cap)) w4.drew) := ⟨c1, x0, x1⟩
      refine region_late (n := 9) (S := (fun W => W.cell? ⟨C, 1, none⟩ = some (.int .i64 cells) ∧ W.cell? ⟨w.heap.size, 0, none⟩ = some (.string name) ∧ W.cell? ⟨w.heap.size, 1, none⟩ = some (.slice p xs.length cap))) (by kernel_rfl) ⟨by kernel_rfl, by kernel_rfl, by kernel_rfl, by decide⟩ ?_
      refine late_take (i := 0) (v := ?va_0) ⟨by kernel_rfl, by kernel_rfl, by kernel_rfl, by decide⟩ rfl (by decide +kernel) (by decide +kernel) (by decide +kernel) (fun _ _ _ h => h) (Or.inl ⟨by rfl, ?ha_0⟩) HS0.out ?ra_0
      case ha_0 =>
        intro W hW
        obtain ⟨s0, s1, s2⟩ := hW
        go_simp
        try with_reducible rfl
      go_frame
      refine late_take (i := 1) (v := ?va_1) ⟨by kernel_rfl, by kernel_rfl, by kernel_rfl, by decide⟩ rfl (by decide +kernel) (by decide +kernel) (by decide +kernel) (fun _ _ _ h => h) (Or.inl ⟨by rfl, ?ha_1⟩) HS0.out ?ra_1
      case ha_1 =>
        intro W hW
        obtain ⟨s0, s1, s2⟩ := hW
        go_simp
        try with_reducible rfl
      go_frame
      refine late_take (i := 2) (v := ?va_2) ⟨by kernel_rfl, by kernel_rfl, by kernel_rfl, by decide⟩ rfl (by decide +kernel) (by decide +kernel) (by decide +kernel) (fun _ _ _ h => h) (Or.inl ⟨by rfl, ?ha_2⟩) HS0.out ?ra_2
      case ha_2 =>
        intro W hW
        obtain ⟨s0, s1, s2⟩ := hW
        go_simp
        try with_reducible rfl
      go_frame
      refine late_take (i := 3) (v := ?va_3) ⟨by kernel_rfl, by kernel_rfl, by kernel_rfl, by decide⟩ rfl (by decide +kernel) (by decide +kernel) (by decide +kernel) (fun _ _ _ h => h) (Or.inl ⟨by rfl, ?ha_3⟩) HS0.out ?ra_3
      case ha_3 =>
        intro W hW
        obtain ⟨s0, s1, s2⟩ := hW
        go_simp
        try with_reducible rfl
      go_frame
      refine late_take (i := 4) (v := ?va_4) ⟨by kernel_rfl, by kernel_rfl, by kernel_rfl, by decide⟩ rfl (by decide +kernel) (by decide +kernel) (by decide +kernel) (fun _ _ _ h => h) (Or.inl ⟨by rfl, ?ha_4⟩) HS0.out ?ra_4
      case ha_4 =>
        intro W hW
        obtain ⟨s0, s1, s2⟩ := hW
        go_simp
        try with_reducible rfl
      go_frame
      refine late_one (i := 5) rfl (by kernel_rfl) (by kernel_rfl) (fun K hK => ?_)
      have HK := Lib.hid hK
      clear hK
      refine op_enter (by rfl) 108 #[.agg #[.string name, .slice p xs.length cap]] (by kernel_rfl) ((HCo.out _ (HV4.out.kept (grown_drew w4 none))).mono ?_)
      rintro e w5 ⟨rfl, hg5⟩
      have HG5 := Lib.hid (grownBy_trans (grown_drew w4 none) hg5)
      have HC5 := Lib.hid (heap_keep HC4.out HG5.out (by simp))
      have HB5 := Lib.hid (heap_keep HB4.out HG5.out (by simp))
      obtain ⟨y0, y1, yf⟩ := cell_of_two HB5.out
      obtain ⟨d0, d1, d2, d3, d4, df⟩ := ChkAt.cells HC5.out
      have HS1 : Hid ((fun W => W.cell? ⟨C, 1, none⟩ = some (.int .i64 cells) ∧ W.cell? ⟨w.heap.size, 0, none⟩ = some (.string name) ∧ W.cell? ⟨w.heap.size, 1, none⟩ = some (.slice p xs.length cap)) w5) := ⟨d1, y0, y1⟩
      refine ⟨_, rfl, HK.out _ _ HS1.out ?_⟩
      clear HK hg5
      go_frame
      refine late_take (i := 6) (v := .int .i64 (cells + cellsN xs)) ⟨by kernel_rfl, by kernel_rfl, by kernel_rfl, by decide⟩ rfl (by decide +kernel) (by decide +kernel) (by decide +kernel) (fun _ _ _ h => h) (Or.inl ⟨by rfl, ?ha_6⟩) HS1.out ?ra_6
      case ha_6 =>
        intro W hW
        obtain ⟨s0, s1, s2⟩ := hW
        go_simp
        try rw [hsum]
      go_frame
      refine late_take (i := 7) (v := ?va_7) ⟨by kernel_rfl, by kernel_rfl, by kernel_rfl, by decide⟩ rfl (by decide +kernel) (by decide +kernel) (by decide +kernel) (fun _ _ _ h => h) (Or.inl ⟨by rfl, ?ha_7⟩) HS1.out ?ra_7
      case ha_7 =>
        intro W hW
        obtain ⟨s0, s1, s2⟩ := hW
        go_simp
        try with_reducible rfl
      go_frame
      refine late_take (i := 8) (v := ?va_8) ⟨by kernel_rfl, by kernel_rfl, by kernel_rfl, by decide⟩ rfl (by decide +kernel) (by decide +kernel) (by decide +kernel) (fun _ _ _ h => h) (Or.inl ⟨by rfl, ?ha_8⟩) HS1.out ?ra_8
      case ha_8 =>
        intro W hW
        obtain ⟨s0, s1, s2⟩ := hW
        go_simp
        try with_reducible rfl
      go_frame
      refine late_done (by decide +kernel) ?_
      simp only [List.drop_succ_cons, List.drop_zero]
      go_upto_region 18 with fail
      have hneC : C ≠ Bs ∧ C ≠ Bl := by
        obtain ⟨a, b, h1⟩ := HS4.out.obj
        obtain ⟨a', b', h1'⟩ := HL4.out.obj
        have h2 := HC4.out
        refine ⟨fun e => ?_, fun e => ?_⟩ <;> subst e
        · rw [h1] at h2; cases h2
        · rw [h1'] at h2; cases h2
      have HC6 := Lib.hid (chk_set1 HC5.out (.int .i64 (cells + cellsN xs)))
      have g6 := grown_set w5 C 1 (.int .i64 (cells + cellsN xs))
      have HFin : Hid (But C Bd Bd w (w5.setCell ⟨C, 1, none⟩ (.int .i64 (cells + cellsN xs))) ∧ EnvA C Bd Bs Bl (cells + cellsN xs) (D.put (strL name) (lit64 xs.length)) (m + 1) (w5.setCell ⟨C, 1, none⟩ (.int .i64 (cells + cellsN xs)))) := by
        refine ⟨((But.of_grown HGd.out).trans (But.of_one HG4.out (by omega))).trans ((But.of_grown HG5.out).trans (But.of_one g6 (by omega))), HC6.out, ⟨kd + 1, World.ownsMap.kept (World.ownsMap.kept HO4.out HG5.out (by simp)) g6 (by simp; omega), by omega⟩, ⟨_, HT.out.put name xs.length⟩, (HS4.out.kept HG5.out (by simp)).kept g6 (by simp; omega), (HL4.out.kept HG5.out (by simp)).kept g6 (by simp; omega), HEd.out.ne⟩
      have hx6 : (w5.setCell ⟨C, 1, none⟩ (.int .i64 (cells + cellsN xs))).cell? ⟨C, 1, none⟩ = some (.int .i64 (cells + cellsN xs)) := (ChkAt.cells HC6.out).2.1
      clear g6 HC6 HS0 HS1 HO4 HC5 HB5 HC4 HB4 HV4 HS4 HL4
      generalize w5.setCell ⟨C, 1, none⟩ (.int .i64 (cells + cellsN xs)) = w6 at *
      by_cases hbig : 20000 < cells + cellsN xs
      · go_wp2
        go_ret
        exact ⟨by rw [HR.out, if_pos (by omega)]; rfl, by rw [HR.out]; exact HFin.out⟩
      · go_wp2
        go_ret
        exact ⟨by rw [HR.out, if_neg (by omega)]; rfl, by rw [HR.out]; exact HFin.out⟩
theorem But.old {w0 : World} {a b c : Nat} (h : But a b c w w') (h0 : w0.grownBy w none) (ha : w0.heap.size ≤ a) (hb : w0.heap.size ≤ b) (hc : w0.heap.size ≤ c) : w0.grownBy w' none :=
  ⟨h.os.trans h0.os, h.tape.trans h0.tape, h.output.trans h0.output, Nat.le_trans h0.size h.size, fun k hk _ => (h.block k (Nat.lt_of_lt_of_le hk h0.size) (by omega) (by omega) (by omega)).trans (h0.block k hk (by simp))⟩
theorem arrayR_ok {D : Table} {cells : Int} {a : ArrayD} (hc : 0 ≤ cells) (h : (arrayR D cells a).1 = 0) : 0 ≤ (arrayR D cells a).2.2 ∧ (arrayR D cells a).2.2 ≤ 20000 := by
  unfold arrayR at h ⊢
  split at h <;> try (simp at h; done)
  split at h <;> try (simp at h; done)
  split at h <;> try (simp at h; done)
  split at h <;> try (simp at h; done)
  split at h <;> try (simp at h; done)
  rename_i h1 h2 h3 h4 h5
  rw [if_neg h1, if_neg h2, if_neg h3, if_neg h4, if_neg h5]
  have hb := cellsN_bound a.2.length a.2 (by simpa using h5) (Nat.le_refl _)
  rw [List.take_length] at hb
  simp only at h ⊢
  split at h
  · cases h
  · exact ⟨by omega, by omega⟩
/-- Arrays in memory. -/
def ArraysAt (w : World) (v : Value) (l : List ArrayD) : Prop :=
  ∃ p cap, v = .slice p l.length cap ∧ l.length ≤ 1000000 ∧ ∀ j a, l[j]? = some a → ∃ b off sv, p = some ⟨b, off, none⟩ ∧ w.cell? ⟨b, off + j * 2, none⟩ = some (.string a.1) ∧ w.cell? ⟨b, off + j * 2 + 1, none⟩ = some sv ∧ a.1.size ≤ maxLen ∧ IntsAt w sv a.2
theorem ArraysAt.kept {v : Value} {l : List ArrayD} (h : ArraysAt w v l) (hg : w.grownBy w' none) : ArraysAt w' v l := by
  obtain ⟨p, cap, hv, hl, hc⟩ := h
  refine ⟨p, cap, hv, hl, fun j a hj => ?_⟩
  obtain ⟨b, off, sv, hp, h1, h2, h3, h4⟩ := hc j a hj
  exact ⟨b, off, sv, hp, hg.cell h1 (by simp), hg.cell h2 (by simp), h3, h4.kept hg⟩
set_option maxRecDepth 100000 in
set_option maxHeartbeats 4000000 in
theorem chkArrays_any (l : List ArrayD) (v : Value) (w0 w : World) (D : Table) (m : Nat) (hE : EnvA C Bd Bs Bl cells D m w) (hm : m + l.length ≤ 800) (h0 : w0.grownBy w none) (hC : w0.heap.size ≤ C) (hB : w0.heap.size ≤ Bd) (hv : ArraysAt w0 v l) (hc0 : 0 ≤ cells) (hc1 : cells ≤ 20000) :
    Calls Tryz.prog 81 #[v, .func (.func 82) #[.pointer (some ⟨C, 0, none⟩)] #[]] w (ChecksA C Bd Bs Bl (m + l.length) (arraysR D cells l) w) := by
  obtain ⟨p, cap, rfl, hl, hc⟩ := hv
  have HV := Lib.hid hc
  have H0 := Lib.hid h0
  have HE := Lib.hid hE
  have hlen : (l.length : Int) ≤ 9223372036854775807 := by omega
  clear hc h0 hE
  generalize hR : arraysR D cells l = R
  go_enter Tryz.func81, Tryz.ntmps81
  go_wp2
  go_loopw [10] (fun i wr => ∃ k : Nat, ∃ D' : Table, ∃ c' : Int, k ≤ l.length ∧ i = .int .i64 k ∧ Hid (But C Bd Bd w wr) ∧ Hid (EnvA C Bd Bs Bl c' D' (m + k) wr) ∧ Hid (arraysR D' c' (l.drop k) = R) ∧ 0 ≤ c' ∧ c' ≤ 20000) (fun i _ => l.length - (intOf i).toNat)
  case atStart => exact ⟨0, D, cells, Nat.zero_le _, rfl, But.refl _, HE.out, hR, hc0, hc1⟩
  case round =>
    obtain ⟨k, D', c', hk, rfl, HBu, HEr, HR, hc0', hc1'⟩ := hrel
    by_cases hlt : k < l.length
    · have hx0 := List.getElem?_eq_getElem hlt
      obtain ⟨b, off, sv, hp, h1, h2, h3, h4⟩ := HV.out k _ hx0
      have HD := Lib.hid (arraysR_drop (D := D') (cells := c') hx0)
      generalize l[k] = a at *
      subst hp
      obtain ⟨name, xs⟩ := a
      simp only at h1 h3 h4
      have H0r := Lib.hid (HBu.out.old H0.out hC hB hB)
      have c1 := H0r.out.cell h1 (by simp)
      have c2 := H0r.out.cell h2 (by simp)
      obtain ⟨ps, cs, rfl, -⟩ := id h4
      have H4 := Lib.hid h4
      have hkI : (k : Int) < (l.length : Int) := by omega
      obtain ⟨b0, b1, bf⟩ := cell_of_two (heap_alloc_new wr (.cells #[.string name, .slice ps xs.length cs] 129))
      have HGa := Lib.hid (World.grownBy_alloc wr (.cells #[.string name, .slice ps xs.length cs] 129) none)
      have hok := arrayR_ok (D := D') (a := (name, xs)) hc0'
      clear hx0 h1 h2 h4
      go_wp2_with (go_at_call 82; go_must (refine (chkArray_any name xs _ w0 _ D' (m + k) (HEr.out.kept HGa.out) (by omega) (grownBy_trans H0r.out HGa.out) hC hB h3 H4.out hc0' hc1').mono ?_; rintro e w2 ⟨rfl, hbu, henv⟩; have HB2 := Lib.hid (HBu.out.trans ((But.of_grown HGa.out).trans hbu)); have HE2 := Lib.hid henv; clear hbu henv))
      · rename_i hne
        have hne' : ¬ (arrayR D' c' (name, xs)).1 = 0 := by simpa using hne
        have h6 := HD.out
        rw [if_neg hne', HR.out] at h6
        go_ret
        obtain ⟨e1, ⟨q, e2, e2'⟩, e3, e4, e5, e6⟩ := HE2.out
        exact ⟨by rw [h6]; rfl, HB2.out, by rw [h6]; exact ⟨e1, ⟨q, e2, by omega⟩, e3, e4, e5, e6⟩⟩
      · rename_i heq
        have heq' : (arrayR D' c' (name, xs)).1 = 0 := by simpa using heq
        have h6 := HD.out
        rw [if_pos heq', HR.out] at h6
        have hok2 := hok heq'
        refine ⟨⟨k + 1, _, _, by omega, by go_num, HB2.out, HE2.out, h6.symm, hok2.1, hok2.2⟩, by simp [intOf]; omega⟩
    · obtain rfl : k = l.length := by omega
      have h2 := HR.out
      rw [List.drop_eq_nil_of_le (Nat.le_refl _)] at h2
      go_wp2
      go_ret
      exact ⟨by rw [← h2]; rfl, HBu.out, by rw [← h2]; exact HEr.out⟩
set_option maxRecDepth 100000 in
set_option maxHeartbeats 4000000 in
theorem newChecker_any (w : World) : Calls Tryz.prog 80 #[] w (fun e w' => ∃ C Bd Bs Bl, e = .returned (.pointer (some ⟨C, 0, none⟩)) ∧ w.heap.size ≤ C ∧ w.heap.size ≤ Bd ∧ w.heap.size ≤ Bs ∧ w.heap.size ≤ Bl ∧ EnvA C Bd Bs Bl 0 (.map []) 0 w' ∧ w.grownBy w' none) := by
  have hmm := @run_makeMap Tryz.prog
  go_enter Tryz.func80, Tryz.ntmps80
  go_wp2
  have m1 := World.ownsMap_made (H := Unit) w Tryz.prog 9 (plainElem Tryz.prog 3)
  have m2 := World.ownsMap_made (H := Unit) (w.alloc (.map #[] 0)) Tryz.prog 9 (plainElem Tryz.prog 4)
  have m3 := World.ownsMap_made (H := Unit) ((w.alloc (.map #[] 0)).alloc (.map #[] 0)) Tryz.prog 9 (plainElem Tryz.prog 4)
  have g1 := World.grownBy_alloc w (.map #[] 0) none
  have g2 := World.grownBy_alloc (w.alloc (.map #[] 0)) (.map #[] 0) none
  have g3 := World.grownBy_alloc ((w.alloc (.map #[] 0)).alloc (.map #[] 0)) (.map #[] 0) none
  have g4 := World.grownBy_alloc (((w.alloc (.map #[] 0)).alloc (.map #[] 0)).alloc (.map #[] 0)) (.cells #[.map (some w.heap.size), .int .i64 0, .map (some (w.heap.size + 1)), .map (some (w.heap.size + 1 + 1)), .int .i64 0] 139) none
  have hc := heap_alloc_new (((w.alloc (.map #[] 0)).alloc (.map #[] 0)).alloc (.map #[] 0)) (.cells #[.map (some w.heap.size), .int .i64 0, .map (some (w.heap.size + 1)), .map (some (w.heap.size + 1 + 1)), .int .i64 0] 139)
  simp only [World.size_alloc] at m2 m3 hc
  go_ret
  refine ⟨w.heap.size + 1 + 1 + 1, w.heap.size, w.heap.size + 1, w.heap.size + 1 + 1, rfl, by omega, by omega, by omega, by omega, ⟨hc, ⟨0, ?_, by omega⟩, ⟨_, tab_start⟩, ⟨0, .map [], ?_, setIs_start, by omega⟩, ⟨0, .map [], ?_, setIs_start, by omega⟩, ⟨by omega, by omega, by omega⟩⟩, grownBy_trans (grownBy_trans g1 g2) (grownBy_trans g3 g4)⟩
  · exact World.ownsMap.kept (World.ownsMap.kept (World.ownsMap.kept m1 g2 (by simp)) g3 (by simp)) g4 (by simp)
  · exact World.ownsMap.kept (World.ownsMap.kept m2 g3 (by simp)) g4 (by simp)
  · exact World.ownsMap.kept m3 g4 (by simp)
end Go.Proofs.YtblpknkgjkbacaaGreatDoor
