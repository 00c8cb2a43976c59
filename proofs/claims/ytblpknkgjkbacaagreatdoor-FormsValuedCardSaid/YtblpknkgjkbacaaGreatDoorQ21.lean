/-
 What a step has beyond what its kind uses.
-/
import Derived.Test.YtblpknkgjkbacaaGreatDoorQ17
import Derived.Test.YtblpknkgjkbacaaGreatDoorQ20
namespace Go.Proofs.YtblpknkgjkbacaaGreatDoor
set_option linter.unusedVariables false
open Go.RowKit Go.Maps Go.WideMaps
variable {w w' : World}
def neS (s : ByteArray) : Bool := s.toList != []
/-- What a step's cells say. -/
def moreB (name arr : ByteArray) (sum : Nat) (op : Int) (la : Nat) (m : Bool) : Bool := neS name || (neS arr || (decide (0 < sum) || ((op != 0) || (decide (0 < la) || m))))
set_option maxRecDepth 100000 in
set_option maxHeartbeats 8000000 in
theorem stepMore1 (name arr : ByteArray) (p2 p3 p4 p5 p7 : Option Addr) (nl nh nc nb ns k2 k3 k4 k5 k7 : Nat) (op n c : Int) (pt pxs pa : Option Addr) (lt ct lx cx la ca : Nat) (xa : ByteArray) (w : World) (h2 : nl ≤ 1000000) (h3 : nh ≤ 1000000) (h4 : nc ≤ 1000000) (h5 : nb ≤ 1000000) (h7 : ns ≤ 1000000) (hla : la ≤ 1000000) :
    Calls Tryz.prog 136 #[.agg #[.int .i64 1, .string name, .slice p2 nl k2, .slice p3 nh k3, .slice p4 nc k4, .slice p5 nb k5, .string arr, .slice p7 ns k7, .int .i64 op, .int .i64 n, .int .i64 c, .slice pt lt ct, .string xa, .slice pxs lx cx, .slice pa la ca]] w (Gives (.bool (moreB ⟨#[]⟩ arr (nc + ns) op la (moreE op n c lt xa lx))) w) := by
  have HB := Lib.hid (heap_alloc_new w (.cells #[.int .i64 1, .string name, .slice p2 nl k2, .slice p3 nh k3, .slice p4 nc k4, .slice p5 nb k5, .string arr, .slice p7 ns k7, .int .i64 op, .int .i64 n, .int .i64 c, .slice pt lt ct, .string xa, .slice pxs lx cx, .slice pa la ca] 96))
  have HG := Lib.hid (World.grownBy_alloc w (.cells #[.int .i64 1, .string name, .slice p2 nl k2, .slice p3 nh k3, .slice p4 nc k4, .slice p5 nb k5, .string arr, .slice p7 ns k7, .int .i64 op, .int .i64 n, .int .i64 c, .slice pt lt ct, .string xa, .slice pxs lx cx, .slice pa la ca] 96) none)
  go_enter Tryz.func136, Tryz.ntmps136
  go_upto_region 1 with fail
  generalize hw1 : w.alloc (.cells #[.int .i64 1, .string name, .slice p2 nl k2, .slice p3 nh k3, .slice p4 nc k4, .slice p5 nb k5, .string arr, .slice p7 ns k7, .int .i64 op, .int .i64 n, .int .i64 c, .slice pt lt ct, .string xa, .slice pxs lx cx, .slice pa la ca] 96) = w1 at *
  generalize hBB : w.heap.size = B at *
  obtain ⟨⟨x0, x1, x2, x3, x4, x5, x6, x7, x8, x9, x10, x11, x12, x13, x14⟩, xf⟩ := box15_cells HB.out
  go_upto_region 8 with fail
  have HB8 : Hid (((((w1.setCell ⟨B, 1, none⟩ (.string ⟨#[]⟩)).setCell ⟨B, 2, none⟩ (.slice none 0 0)).setCell ⟨B, 3, none⟩ (.slice none 0 0)).setCell ⟨B, 5, none⟩ (.slice none 0 0)).heap[B]? = some (.cells #[.int .i64 1, .string ⟨#[]⟩, .slice none 0 0, .slice none 0 0, .slice p4 nc k4, .slice none 0 0, .string arr, .slice p7 ns k7, .int .i64 op, .int .i64 n, .int .i64 c, .slice pt lt ct, .string xa, .slice pxs lx cx, .slice pa la ca] 96 (0, 0))) := by
    have h := HB.out
    show _ = _
    simp [World.setCell, Array.getElem?_modify, h]
  have HG8 : Hid (w.grownBy ((((w1.setCell ⟨B, 1, none⟩ (.string ⟨#[]⟩)).setCell ⟨B, 2, none⟩ (.slice none 0 0)).setCell ⟨B, 3, none⟩ (.slice none 0 0)).setCell ⟨B, 5, none⟩ (.slice none 0 0)) none) := grown_own HG.out (r := some B) (grownBy_trans (grownBy_trans (grownBy_trans (grown_set _ _ _ _) (grown_set _ _ _ _)) (grown_set _ _ _ _)) (grown_set _ _ _ _)) (fun i hi => by cases hi; omega)
  clear x0 x1 x2 x3 x4 x5 x6 x7 x8 x9 x10 x11 x12 x13 x14 xf HB HG
  generalize ((((w1.setCell ⟨B, 1, none⟩ (.string ⟨#[]⟩)).setCell ⟨B, 2, none⟩ (.slice none 0 0)).setCell ⟨B, 3, none⟩ (.slice none 0 0)).setCell ⟨B, 5, none⟩ (.slice none 0 0)) = w8 at *
  obtain ⟨⟨x0, x1, x2, x3, x4, x5, x6, x7, x8, x9, x10, x11, x12, x13, x14⟩, xf⟩ := box15_cells HB8.out
  go_upto_region 9 with fail
  have hsm : (nc : Int) + (ns : Int) = ((nc + ns : Nat) : Int) := by omega
  rw [hsm]
  generalize nc + ns = sm at *
  by_cases hA : arr.toList = []
  case neg =>
    have hA' : (arr.toList != []) = true := by simpa using hA
    go_wp2_with (go_at_call 154; go_must (refine (exprMore_any 0 n c pt pxs pa lt ct lx cx la ca xa _).mono ?_; rintro e w9 ⟨rfl, hg⟩; have G9 := Lib.hid (grownBy_trans HG8.out hg); clear hg))
    go_ret
    exact ⟨ret_bool (by simp [moreB, neS, hA]), HG8.out⟩
  have hA' : (arr.toList != []) = false := by simp [hA]
  by_cases hS : 0 < sm
  case pos =>
    have hS' : (0 : Int) < (sm : Int) := by omega
    go_wp2_with (go_at_call 154; go_must (refine (exprMore_any 0 n c pt pxs pa lt ct lx cx la ca xa _).mono ?_; rintro e w9 ⟨rfl, hg⟩; have G9 := Lib.hid (grownBy_trans HG8.out hg); clear hg))
    go_ret
    exact ⟨ret_bool (by simp [moreB, neS, hA, hS]), HG8.out⟩
  have hS' : ¬ (0 : Int) < (sm : Int) := by omega
  by_cases hO : op = 0
  case neg =>
    have hO' : (op != 0) = true := by simpa using hO
    go_wp2_with (go_at_call 154; go_must (refine (exprMore_any 0 n c pt pxs pa lt ct lx cx la ca xa _).mono ?_; rintro e w9 ⟨rfl, hg⟩; have G9 := Lib.hid (grownBy_trans HG8.out hg); clear hg))
    go_ret
    exact ⟨ret_bool (by simp [moreB, neS, hA, hS, hO]), HG8.out⟩
  subst hO
  by_cases hL : 0 < la
  case pos =>
    have hL' : (0 : Int) < (la : Int) := by omega
    go_wp2_with (go_at_call 154; go_must (refine (exprMore_any 0 n c pt pxs pa lt ct lx cx la ca xa _).mono ?_; rintro e w9 ⟨rfl, hg⟩; have G9 := Lib.hid (grownBy_trans HG8.out hg); clear hg))
    go_ret
    exact ⟨ret_bool (by simp [moreB, neS, hA, hS, hL]), HG8.out⟩
  have hL' : ¬ (0 : Int) < (la : Int) := by omega
  go_wp2_with (go_at_call 154; go_must (refine (exprMore_any 0 n c pt pxs pa lt ct lx cx la ca xa _).mono ?_; rintro e w9 ⟨rfl, hg⟩; have G9 := Lib.hid (grownBy_trans HG8.out hg); clear hg))
  go_ret
  exact ⟨ret_bool (by simp [moreB, neS, hA, hS, hL]), G9.out⟩
set_option maxRecDepth 100000 in
set_option maxHeartbeats 8000000 in
theorem stepMore2 (name arr : ByteArray) (p2 p3 p4 p5 p7 : Option Addr) (nl nh nc nb ns k2 k3 k4 k5 k7 : Nat) (op n c : Int) (pt pxs pa : Option Addr) (lt ct lx cx la ca : Nat) (xa : ByteArray) (w : World) (h2 : nl ≤ 1000000) (h3 : nh ≤ 1000000) (h4 : nc ≤ 1000000) (h5 : nb ≤ 1000000) (h7 : ns ≤ 1000000) (hla : la ≤ 1000000) :
    Calls Tryz.prog 136 #[.agg #[.int .i64 2, .string name, .slice p2 nl k2, .slice p3 nh k3, .slice p4 nc k4, .slice p5 nb k5, .string arr, .slice p7 ns k7, .int .i64 op, .int .i64 n, .int .i64 c, .slice pt lt ct, .string xa, .slice pxs lx cx, .slice pa la ca]] w (Gives (.bool (moreB name arr (nl + nh + ns) op la (moreE op n c lt xa lx))) w) := by
  have HB := Lib.hid (heap_alloc_new w (.cells #[.int .i64 2, .string name, .slice p2 nl k2, .slice p3 nh k3, .slice p4 nc k4, .slice p5 nb k5, .string arr, .slice p7 ns k7, .int .i64 op, .int .i64 n, .int .i64 c, .slice pt lt ct, .string xa, .slice pxs lx cx, .slice pa la ca] 96))
  have HG := Lib.hid (World.grownBy_alloc w (.cells #[.int .i64 2, .string name, .slice p2 nl k2, .slice p3 nh k3, .slice p4 nc k4, .slice p5 nb k5, .string arr, .slice p7 ns k7, .int .i64 op, .int .i64 n, .int .i64 c, .slice pt lt ct, .string xa, .slice pxs lx cx, .slice pa la ca] 96) none)
  go_enter Tryz.func136, Tryz.ntmps136
  go_upto_region 1 with fail
  generalize hw1 : w.alloc (.cells #[.int .i64 2, .string name, .slice p2 nl k2, .slice p3 nh k3, .slice p4 nc k4, .slice p5 nb k5, .string arr, .slice p7 ns k7, .int .i64 op, .int .i64 n, .int .i64 c, .slice pt lt ct, .string xa, .slice pxs lx cx, .slice pa la ca] 96) = w1 at *
  generalize hBB : w.heap.size = B at *
  obtain ⟨⟨x0, x1, x2, x3, x4, x5, x6, x7, x8, x9, x10, x11, x12, x13, x14⟩, xf⟩ := box15_cells HB.out
  go_upto_region 8 with fail
  have HB8 : Hid (((w1.setCell ⟨B, 4, none⟩ (.slice none 0 0)).setCell ⟨B, 5, none⟩ (.slice none 0 0)).heap[B]? = some (.cells #[.int .i64 2, .string name, .slice p2 nl k2, .slice p3 nh k3, .slice none 0 0, .slice none 0 0, .string arr, .slice p7 ns k7, .int .i64 op, .int .i64 n, .int .i64 c, .slice pt lt ct, .string xa, .slice pxs lx cx, .slice pa la ca] 96 (0, 0))) := by
    have h := HB.out
    show _ = _
    simp [World.setCell, Array.getElem?_modify, h]
  have HG8 : Hid (w.grownBy ((w1.setCell ⟨B, 4, none⟩ (.slice none 0 0)).setCell ⟨B, 5, none⟩ (.slice none 0 0)) none) := grown_own HG.out (r := some B) (grownBy_trans (grown_set _ _ _ _) (grown_set _ _ _ _)) (fun i hi => by cases hi; omega)
  clear x0 x1 x2 x3 x4 x5 x6 x7 x8 x9 x10 x11 x12 x13 x14 xf HB HG
  generalize ((w1.setCell ⟨B, 4, none⟩ (.slice none 0 0)).setCell ⟨B, 5, none⟩ (.slice none 0 0)) = w8 at *
  obtain ⟨⟨x0, x1, x2, x3, x4, x5, x6, x7, x8, x9, x10, x11, x12, x13, x14⟩, xf⟩ := box15_cells HB8.out
  go_upto_region 9 with fail
  have hsm : (nl : Int) + (nh : Int) + (ns : Int) = ((nl + nh + ns : Nat) : Int) := by omega
  rw [hsm]
  generalize nl + nh + ns = sm at *
  by_cases hN : name.toList = []
  case neg =>
    have hN' : (name.toList != []) = true := by simpa using hN
    go_wp2_with (go_at_call 154; go_must (refine (exprMore_any 0 n c pt pxs pa lt ct lx cx la ca xa _).mono ?_; rintro e w9 ⟨rfl, hg⟩; have G9 := Lib.hid (grownBy_trans HG8.out hg); clear hg))
    go_ret
    exact ⟨ret_bool (by simp [moreB, neS, hN]), HG8.out⟩
  have hN' : (name.toList != []) = false := by simp [hN]
  by_cases hA : arr.toList = []
  case neg =>
    have hA' : (arr.toList != []) = true := by simpa using hA
    go_wp2_with (go_at_call 154; go_must (refine (exprMore_any 0 n c pt pxs pa lt ct lx cx la ca xa _).mono ?_; rintro e w9 ⟨rfl, hg⟩; have G9 := Lib.hid (grownBy_trans HG8.out hg); clear hg))
    go_ret
    exact ⟨ret_bool (by simp [moreB, neS, hN, hA]), HG8.out⟩
  have hA' : (arr.toList != []) = false := by simp [hA]
  by_cases hS : 0 < sm
  case pos =>
    have hS' : (0 : Int) < (sm : Int) := by omega
    go_wp2_with (go_at_call 154; go_must (refine (exprMore_any 0 n c pt pxs pa lt ct lx cx la ca xa _).mono ?_; rintro e w9 ⟨rfl, hg⟩; have G9 := Lib.hid (grownBy_trans HG8.out hg); clear hg))
    go_ret
    exact ⟨ret_bool (by simp [moreB, neS, hN, hA, hS]), HG8.out⟩
  have hS' : ¬ (0 : Int) < (sm : Int) := by omega
  by_cases hO : op = 0
  case neg =>
    have hO' : (op != 0) = true := by simpa using hO
    go_wp2_with (go_at_call 154; go_must (refine (exprMore_any 0 n c pt pxs pa lt ct lx cx la ca xa _).mono ?_; rintro e w9 ⟨rfl, hg⟩; have G9 := Lib.hid (grownBy_trans HG8.out hg); clear hg))
    go_ret
    exact ⟨ret_bool (by simp [moreB, neS, hN, hA, hS, hO]), HG8.out⟩
  subst hO
  by_cases hL : 0 < la
  case pos =>
    have hL' : (0 : Int) < (la : Int) := by omega
    go_wp2_with (go_at_call 154; go_must (refine (exprMore_any 0 n c pt pxs pa lt ct lx cx la ca xa _).mono ?_; rintro e w9 ⟨rfl, hg⟩; have G9 := Lib.hid (grownBy_trans HG8.out hg); clear hg))
    go_ret
    exact ⟨ret_bool (by simp [moreB, neS, hN, hA, hS, hL]), HG8.out⟩
  have hL' : ¬ (0 : Int) < (la : Int) := by omega
  go_wp2_with (go_at_call 154; go_must (refine (exprMore_any 0 n c pt pxs pa lt ct lx cx la ca xa _).mono ?_; rintro e w9 ⟨rfl, hg⟩; have G9 := Lib.hid (grownBy_trans HG8.out hg); clear hg))
  go_ret
  exact ⟨ret_bool (by simp [moreB, neS, hN, hA, hS, hL]), G9.out⟩
set_option maxRecDepth 100000 in
set_option maxHeartbeats 8000000 in
theorem stepMore3 (name arr : ByteArray) (p2 p3 p4 p5 p7 : Option Addr) (nl nh nc nb ns k2 k3 k4 k5 k7 : Nat) (op n c : Int) (pt pxs pa : Option Addr) (lt ct lx cx la ca : Nat) (xa : ByteArray) (w : World) (h2 : nl ≤ 1000000) (h3 : nh ≤ 1000000) (h4 : nc ≤ 1000000) (h5 : nb ≤ 1000000) (h7 : ns ≤ 1000000) (hla : la ≤ 1000000) :
    Calls Tryz.prog 136 #[.agg #[.int .i64 3, .string name, .slice p2 nl k2, .slice p3 nh k3, .slice p4 nc k4, .slice p5 nb k5, .string arr, .slice p7 ns k7, .int .i64 op, .int .i64 n, .int .i64 c, .slice pt lt ct, .string xa, .slice pxs lx cx, .slice pa la ca]] w (Gives (.bool (moreB ⟨#[]⟩ ⟨#[]⟩ (nl + nh + nc + nb) 0 0 false)) w) := by
  have HB := Lib.hid (heap_alloc_new w (.cells #[.int .i64 3, .string name, .slice p2 nl k2, .slice p3 nh k3, .slice p4 nc k4, .slice p5 nb k5, .string arr, .slice p7 ns k7, .int .i64 op, .int .i64 n, .int .i64 c, .slice pt lt ct, .string xa, .slice pxs lx cx, .slice pa la ca] 96))
  have HG := Lib.hid (World.grownBy_alloc w (.cells #[.int .i64 3, .string name, .slice p2 nl k2, .slice p3 nh k3, .slice p4 nc k4, .slice p5 nb k5, .string arr, .slice p7 ns k7, .int .i64 op, .int .i64 n, .int .i64 c, .slice pt lt ct, .string xa, .slice pxs lx cx, .slice pa la ca] 96) none)
  go_enter Tryz.func136, Tryz.ntmps136
  go_upto_region 1 with fail
  generalize hw1 : w.alloc (.cells #[.int .i64 3, .string name, .slice p2 nl k2, .slice p3 nh k3, .slice p4 nc k4, .slice p5 nb k5, .string arr, .slice p7 ns k7, .int .i64 op, .int .i64 n, .int .i64 c, .slice pt lt ct, .string xa, .slice pxs lx cx, .slice pa la ca] 96) = w1 at *
  generalize hBB : w.heap.size = B at *
  obtain ⟨⟨x0, x1, x2, x3, x4, x5, x6, x7, x8, x9, x10, x11, x12, x13, x14⟩, xf⟩ := box15_cells HB.out
  go_upto_region 8 with fail
  have HB8 : Hid (((((((((((w1.setCell ⟨B, 1, none⟩ (.string ⟨#[]⟩)).setCell ⟨B, 6, none⟩ (.string ⟨#[]⟩)).setCell ⟨B, 7, none⟩ (.slice none 0 0)).setCell ⟨B, 8, none⟩ (.int .i64 0)).setCell ⟨B, 9, none⟩ (.int .i64 0)).setCell ⟨B, 10, none⟩ (.int .i64 0)).setCell ⟨B, 11, none⟩ (.slice none 0 0)).setCell ⟨B, 12, none⟩ (.string ⟨#[]⟩)).setCell ⟨B, 13, none⟩ (.slice none 0 0)).setCell ⟨B, 14, none⟩ (.slice none 0 0)).heap[B]? = some (.cells #[.int .i64 3, .string ⟨#[]⟩, .slice p2 nl k2, .slice p3 nh k3, .slice p4 nc k4, .slice p5 nb k5, .string ⟨#[]⟩, .slice none 0 0, .int .i64 0, .int .i64 0, .int .i64 0, .slice none 0 0, .string ⟨#[]⟩, .slice none 0 0, .slice none 0 0] 96 (0, 0))) := by
    have h := HB.out
    show _ = _
    simp [World.setCell, Array.getElem?_modify, h]
  have HG8 : Hid (w.grownBy ((((((((((w1.setCell ⟨B, 1, none⟩ (.string ⟨#[]⟩)).setCell ⟨B, 6, none⟩ (.string ⟨#[]⟩)).setCell ⟨B, 7, none⟩ (.slice none 0 0)).setCell ⟨B, 8, none⟩ (.int .i64 0)).setCell ⟨B, 9, none⟩ (.int .i64 0)).setCell ⟨B, 10, none⟩ (.int .i64 0)).setCell ⟨B, 11, none⟩ (.slice none 0 0)).setCell ⟨B, 12, none⟩ (.string ⟨#[]⟩)).setCell ⟨B, 13, none⟩ (.slice none 0 0)).setCell ⟨B, 14, none⟩ (.slice none 0 0)) none) := grown_own HG.out (r := some B) (grownBy_trans (grownBy_trans (grownBy_trans (grownBy_trans (grownBy_trans (grownBy_trans (grownBy_trans (grownBy_trans (grownBy_trans (grown_set _ _ _ _) (grown_set _ _ _ _)) (grown_set _ _ _ _)) (grown_set _ _ _ _)) (grown_set _ _ _ _)) (grown_set _ _ _ _)) (grown_set _ _ _ _)) (grown_set _ _ _ _)) (grown_set _ _ _ _)) (grown_set _ _ _ _)) (fun i hi => by cases hi; omega)
  clear x0 x1 x2 x3 x4 x5 x6 x7 x8 x9 x10 x11 x12 x13 x14 xf HB HG
  generalize ((((((((((w1.setCell ⟨B, 1, none⟩ (.string ⟨#[]⟩)).setCell ⟨B, 6, none⟩ (.string ⟨#[]⟩)).setCell ⟨B, 7, none⟩ (.slice none 0 0)).setCell ⟨B, 8, none⟩ (.int .i64 0)).setCell ⟨B, 9, none⟩ (.int .i64 0)).setCell ⟨B, 10, none⟩ (.int .i64 0)).setCell ⟨B, 11, none⟩ (.slice none 0 0)).setCell ⟨B, 12, none⟩ (.string ⟨#[]⟩)).setCell ⟨B, 13, none⟩ (.slice none 0 0)).setCell ⟨B, 14, none⟩ (.slice none 0 0)) = w8 at *
  obtain ⟨⟨x0, x1, x2, x3, x4, x5, x6, x7, x8, x9, x10, x11, x12, x13, x14⟩, xf⟩ := box15_cells HB8.out
  go_upto_region 9 with fail
  have hsm : (nl : Int) + (nh : Int) + (nc : Int) + (nb : Int) = ((nl + nh + nc + nb : Nat) : Int) := by omega
  rw [hsm]
  generalize nl + nh + nc + nb = sm at *
  by_cases hS : 0 < sm
  case pos =>
    have hS' : (0 : Int) < (sm : Int) := by omega
    go_wp2_with (go_at_call 154; go_must (refine (exprMore_any 0 0 0 none none none 0 0 0 0 0 0 ⟨#[]⟩ _).mono ?_; rintro e w9 ⟨rfl, hg⟩; have G9 := Lib.hid (grownBy_trans HG8.out hg); clear hg))
    go_ret
    exact ⟨ret_bool (by simp [moreB, neS, hS]), HG8.out⟩
  have hS' : ¬ (0 : Int) < (sm : Int) := by omega
  go_wp2_with (go_at_call 154; go_must (refine (exprMore_any 0 0 0 none none none 0 0 0 0 0 0 ⟨#[]⟩ _).mono ?_; rintro e w9 ⟨rfl, hg⟩; have G9 := Lib.hid (grownBy_trans HG8.out hg); clear hg))
  go_ret
  exact ⟨ret_bool (by simp [moreB, neS, hS, moreE]), G9.out⟩
set_option maxHeartbeats 4000000 in
theorem stepMore_any (kind : Int) (hk : 1 ≤ kind ∧ kind ≤ 3) (name : ByteArray) (low high : List BoundD) (conds : List CondD) (body : List StepD) (arr : ByteArray) (subs : List CondD) (x : ExprD) (vs : List Value) (w : World) (hF : StepF w vs (.mk kind name low high conds body arr subs x)) :
    Calls Tryz.prog 136 #[.agg vs.toArray] w (Gives (.bool (stepMore kind name low.length high.length conds.length body.length arr subs.length x)) w) := by
  unfold StepF at hF
  obtain ⟨vlo, vhi, vcs, p5, k5, vsb, e0, e1, e2, e3, e4, e5, e6, rfl, -, hns, hlo, hhi, hcs, has, hsb, hx, hbl, -⟩ := hF
  obtain ⟨p2, k2, rfl, l2, -⟩ := hlo
  obtain ⟨p3, k3, rfl, l3, -⟩ := hhi
  obtain ⟨p4, k4, rfl, l4, -⟩ := hcs
  obtain ⟨p7, k7, rfl, l7, -⟩ := hsb
  obtain ⟨op, n, c, ts, xa, xs, args⟩ := x
  unfold ExprF at hx
  obtain ⟨⟨rfl, -⟩, ⟨rfl, -⟩, ⟨rfl, -⟩, ⟨p11, k11, rfl, -⟩, ⟨rfl, -⟩, ⟨p13, k13, rfl, -⟩, p14, k14, rfl, l14, -⟩ := hx
  have h123 : kind = 1 ∨ kind = 2 ∨ kind = 3 := by omega
  rcases h123 with rfl | rfl | rfl
  · have e : stepMore 1 name low.length high.length conds.length body.length arr subs.length (.mk op n c ts xa xs args) = moreB ⟨#[]⟩ arr (conds.length + subs.length) op args.length (moreE op n c ts.length xa xs.length) := by
      simp [stepMore, moreB, neS, Bool.or_assoc, Nat.pos_iff_ne_zero, bne]
    rw [e]
    exact stepMore1 name arr p2 p3 p4 p5 p7 _ _ _ _ _ k2 k3 k4 k5 k7 op n c p11 p13 p14 _ k11 _ k13 _ k14 xa w l2 l3 l4 hbl l7 l14
  · have e : stepMore 2 name low.length high.length conds.length body.length arr subs.length (.mk op n c ts xa xs args) = moreB name arr (low.length + high.length + subs.length) op args.length (moreE op n c ts.length xa xs.length) := by
      simp [stepMore, moreB, neS, Bool.or_assoc, Nat.pos_iff_ne_zero, bne]
    rw [e]
    exact stepMore2 name arr p2 p3 p4 p5 p7 _ _ _ _ _ k2 k3 k4 k5 k7 op n c p11 p13 p14 _ k11 _ k13 _ k14 xa w l2 l3 l4 hbl l7 l14
  · have e : stepMore 3 name low.length high.length conds.length body.length arr subs.length (.mk op n c ts xa xs args) = moreB ⟨#[]⟩ ⟨#[]⟩ (low.length + high.length + conds.length + body.length) 0 0 false := by
      simp [stepMore, moreB, neS, Bool.or_assoc, Nat.pos_iff_ne_zero, bne]
    rw [e]
    exact stepMore3 name arr p2 p3 p4 p5 p7 _ _ _ _ _ k2 k3 k4 k5 k7 op n c p11 p13 p14 _ k11 _ k13 _ k14 xa w l2 l3 l4 hbl l7 l14
end Go.Proofs.YtblpknkgjkbacaaGreatDoor
