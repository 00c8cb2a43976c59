/-
 The statement of the text is read, and the program.
-/
import Derived.Test.YtblpknkgjkbacaaGreatDoorQ15
namespace Go.Proofs.YtblpknkgjkbacaaGreatDoor
set_option linter.unusedVariables false
open Go.RowKit Go.Maps Go.WideMaps
variable {w w' : World} {R st b k a e : Nat}
theorem box15_cells {X : Nat} {x0 x1 x2 x3 x4 x5 x6 x7 x8 x9 x10 x11 x12 x13 x14 : Value} {T : TypeId} (h : w.heap[X]? = some (.cells #[x0, x1, x2, x3, x4, x5, x6, x7, x8, x9, x10, x11, x12, x13, x14] T (0, 0))) :
    (w.cell? ⟨X, 0, none⟩ = some x0 ∧ w.cell? ⟨X, 1, none⟩ = some x1 ∧ w.cell? ⟨X, 2, none⟩ = some x2 ∧ w.cell? ⟨X, 3, none⟩ = some x3 ∧ w.cell? ⟨X, 4, none⟩ = some x4 ∧ w.cell? ⟨X, 5, none⟩ = some x5 ∧ w.cell? ⟨X, 6, none⟩ = some x6 ∧ w.cell? ⟨X, 7, none⟩ = some x7 ∧ w.cell? ⟨X, 8, none⟩ = some x8 ∧ w.cell? ⟨X, 9, none⟩ = some x9 ∧ w.cell? ⟨X, 10, none⟩ = some x10 ∧ w.cell? ⟨X, 11, none⟩ = some x11 ∧ w.cell? ⟨X, 12, none⟩ = some x12 ∧ w.cell? ⟨X, 13, none⟩ = some x13 ∧ w.cell? ⟨X, 14, none⟩ = some x14) ∧ ∀ j, w.frozen? ⟨X, j, none⟩ = false := by
  refine ⟨⟨?_, ?_, ?_, ?_, ?_, ?_, ?_, ?_, ?_, ?_, ?_, ?_, ?_, ?_, ?_⟩, fun j => by simp [World.frozen?, h]⟩ <;> (unfold World.cell?; rw [h]; rfl)
theorem box15_set1 {X : Nat} {x0 x1 x2 x3 x4 x5 x6 x7 x8 x9 x10 x11 x12 x13 x14 : Value} {T : TypeId} (h : w.heap[X]? = some (.cells #[x0, x1, x2, x3, x4, x5, x6, x7, x8, x9, x10, x11, x12, x13, x14] T (0, 0))) (v : Value) : (w.setCell ⟨X, 1, none⟩ v).heap[X]? = some (.cells #[x0, v, x2, x3, x4, x5, x6, x7, x8, x9, x10, x11, x12, x13, x14] T (0, 0)) := by simp [World.setCell, Array.getElem?_modify, h]
theorem box15_set67 {X : Nat} {x0 x1 x2 x3 x4 x5 x6 x7 x8 x9 x10 x11 x12 x13 x14 : Value} {T : TypeId} (h : w.heap[X]? = some (.cells #[x0, x1, x2, x3, x4, x5, x6, x7, x8, x9, x10, x11, x12, x13, x14] T (0, 0))) (v u : Value) : ((w.setCell ⟨X, 6, none⟩ v).setCell ⟨X, 7, none⟩ u).heap[X]? = some (.cells #[x0, x1, x2, x3, x4, x5, v, u, x8, x9, x10, x11, x12, x13, x14] T (0, 0)) ∧ w.grownBy ((w.setCell ⟨X, 6, none⟩ v).setCell ⟨X, 7, none⟩ u) (some X) := ⟨by simp [World.setCell, Array.getElem?_modify, h], grownBy_trans (grown_set _ _ _ _) (grown_set _ _ _ _)⟩
theorem box15_set8 {X : Nat} {x0 x1 x2 x3 x4 x5 x6 x7 x8 x9 x10 x11 x12 x13 x14 : Value} {T : TypeId} (h : w.heap[X]? = some (.cells #[x0, x1, x2, x3, x4, x5, x6, x7, x8, x9, x10, x11, x12, x13, x14] T (0, 0))) (e0 e1 e2 e3 e4 e5 e6 : Value) : (((((((w.setCell ⟨X, 8, none⟩ e0).setCell ⟨X, 9, none⟩ e1).setCell ⟨X, 10, none⟩ e2).setCell ⟨X, 11, none⟩ e3).setCell ⟨X, 12, none⟩ e4).setCell ⟨X, 13, none⟩ e5).setCell ⟨X, 14, none⟩ e6).heap[X]? = some (.cells #[x0, x1, x2, x3, x4, x5, x6, x7, e0, e1, e2, e3, e4, e5, e6] T (0, 0)) ∧ w.grownBy (((((((w.setCell ⟨X, 8, none⟩ e0).setCell ⟨X, 9, none⟩ e1).setCell ⟨X, 10, none⟩ e2).setCell ⟨X, 11, none⟩ e3).setCell ⟨X, 12, none⟩ e4).setCell ⟨X, 13, none⟩ e5).setCell ⟨X, 14, none⟩ e6) (some X) := ⟨by simp [World.setCell, Array.getElem?_modify, h], (grownBy_trans (grownBy_trans (grownBy_trans (grownBy_trans (grownBy_trans (grownBy_trans (grown_set _ _ _ _) (grown_set _ _ _ _)) (grown_set _ _ _ _)) (grown_set _ _ _ _)) (grown_set _ _ _ _)) (grown_set _ _ _ _)) (grown_set _ _ _ _))⟩
theorem box15_set {X : Nat} {x0 x1 x2 x3 x4 x5 x6 x7 x8 x9 x10 x11 x12 x13 x14 : Value} {T : TypeId} (h : w.heap[X]? = some (.cells #[x0, x1, x2, x3, x4, x5, x6, x7, x8, x9, x10, x11, x12, x13, x14] T (0, 0))) (y0 y1 y2 y3 y4 y5 y6 y7 y8 y9 y10 y11 y12 y13 y14 : Value) : (((((((((((((((w.setCell ⟨X, 0, none⟩ y0).setCell ⟨X, 1, none⟩ y1).setCell ⟨X, 2, none⟩ y2).setCell ⟨X, 3, none⟩ y3).setCell ⟨X, 4, none⟩ y4).setCell ⟨X, 5, none⟩ y5).setCell ⟨X, 6, none⟩ y6).setCell ⟨X, 7, none⟩ y7).setCell ⟨X, 8, none⟩ y8).setCell ⟨X, 9, none⟩ y9).setCell ⟨X, 10, none⟩ y10).setCell ⟨X, 11, none⟩ y11).setCell ⟨X, 12, none⟩ y12).setCell ⟨X, 13, none⟩ y13).setCell ⟨X, 14, none⟩ y14).heap[X]? = some (.cells #[y0, y1, y2, y3, y4, y5, y6, y7, y8, y9, y10, y11, y12, y13, y14] T (0, 0)) ∧ w.grownBy (((((((((((((((w.setCell ⟨X, 0, none⟩ y0).setCell ⟨X, 1, none⟩ y1).setCell ⟨X, 2, none⟩ y2).setCell ⟨X, 3, none⟩ y3).setCell ⟨X, 4, none⟩ y4).setCell ⟨X, 5, none⟩ y5).setCell ⟨X, 6, none⟩ y6).setCell ⟨X, 7, none⟩ y7).setCell ⟨X, 8, none⟩ y8).setCell ⟨X, 9, none⟩ y9).setCell ⟨X, 10, none⟩ y10).setCell ⟨X, 11, none⟩ y11).setCell ⟨X, 12, none⟩ y12).setCell ⟨X, 13, none⟩ y13).setCell ⟨X, 14, none⟩ y14) (some X) := ⟨by simp [World.setCell, Array.getElem?_modify, h], (grownBy_trans (grownBy_trans (grownBy_trans (grownBy_trans (grownBy_trans (grownBy_trans (grownBy_trans (grownBy_trans (grownBy_trans (grownBy_trans (grownBy_trans (grownBy_trans (grownBy_trans (grownBy_trans (grown_set _ _ _ _) (grown_set _ _ _ _)) (grown_set _ _ _ _)) (grown_set _ _ _ _)) (grown_set _ _ _ _)) (grown_set _ _ _ _)) (grown_set _ _ _ _)) (grown_set _ _ _ _)) (grown_set _ _ _ _)) (grown_set _ _ _ _)) (grown_set _ _ _ _)) (grown_set _ _ _ _)) (grown_set _ _ _ _)) (grown_set _ _ _ _)) (grown_set _ _ _ _))⟩
theorem Tryz.infoStep : (Tryz.prog.info? 96).map (·.size) = some 15 := by kernel_rfl
theorem nm12 : wordN lit 12 13 = ⟨#[115]⟩ := by decide +kernel
theorem nm15 : wordN lit 15 16 = ⟨#[97]⟩ := by decide +kernel
/-- The expression's row. -/
def ArgsAt (w : World) (g q : Nat) : Prop := w.heap[g]? = some (.cells #[.int .i64 3, .int .i64 0, .int .i64 0, .slice none 0 0, .string ⟨#[97]⟩, .slice (some ⟨q, 0, none⟩) 1 1, .slice none 0 0, .int .i64 1, .int .i64 7, .int .i64 0, .slice none 0 0, .string ⟨#[]⟩, .slice none 0 0, .slice none 0 0] 93 (0, 0))
/-- The statement's value. -/
def stepL (q1 g : Nat) : Array Value := #[.int .i64 3, .string ⟨#[115]⟩, .slice none 0 0, .slice none 0 0, .slice none 0 0, .slice none 0 0, .string ⟨#[97]⟩, (.slice (some ⟨q1, 0, none⟩) 1 1), .int .i64 4, .int .i64 0, .int .i64 0, .slice none 0 0, .string ⟨#[]⟩, .slice none 0 0, .slice (some ⟨g, 0, none⟩) 2 2]
def StepLit (R : Nat) (w : World) (e : Ending) (w' : World) : Prop := ∃ q1 q g, e = .returned (.agg (stepL q1 g)) ∧ w.heap.size ≤ g ∧ ArgsAt w' g q ∧ OneForm w w' 1 (.slice (some ⟨q1, 0, none⟩) 1 1) ∧ OneForm w w' 0 (.slice (some ⟨q, 0, none⟩) 1 1) ∧ RdAt w' R lit 0 31 31 ∧ w.grownBy w' (some R)
/-- Reading goes on: the reader, and two boxes. -/
structure Bx (w0 : World) (R X Y : Nat) (T : TypeId) (k st bh : Nat) (cx cy : Array Value) (w : World) : Prop where
  rd : RdAt w R lit k st bh
  x : w.heap[X]? = some (.cells cx T (0, 0))
  y : w.heap[Y]? = some (.cells cy T (0, 0))
  ne : R < X ∧ X < Y ∧ Y < w.heap.size
  grown : w0.grownBy w (some R)
  old : w0.heap.size ≤ X
variable {w0 : World} {X Y st bh k2 a2 e2 : Nat} {T : TypeId} {cx cy cz : Array Value}
theorem Bx.start (h : RdAt w R lit k st bh) (cx cy : Array Value) (T : TypeId) (w1 : World) (h1 : w1 = (w.alloc (.cells cx T)).alloc (.cells cy T)) : Bx w R w.heap.size (w.heap.size + 1) T k st bh cx cy w1 := by
  have hlt := h.lt
  have g1 := World.grownBy_alloc w (.cells cx T)
  have g2 := World.grownBy_alloc (w.alloc (.cells cx T)) (.cells cy T)
  rw [← h1] at g2
  have hs : w1.heap.size = w.heap.size + 1 + 1 := by rw [h1, World.size_alloc, World.size_alloc]
  refine ⟨h.kept (grownBy_trans (g1 none) (g2 none)) (by simp), heap_keep (heap_alloc_new w _) (g2 none) (by simp), ?_, ⟨hlt, by omega, by omega⟩, grownBy_any _ (grownBy_trans (g1 none) (g2 none)), Nat.le_refl _⟩
  rw [h1]
  have := heap_alloc_new (w.alloc (.cells cx T)) (.cells cy T)
  rwa [World.size_alloc] at this
theorem Bx.step (h : Bx w0 R X Y T k st bh cx cy w) (h1 : RdAt w' R lit k2 a2 e2) (h2 : w.grownBy w' (some R)) : Bx w0 R X Y T k2 a2 e2 cx cy w' := by
  obtain ⟨n1, n2, n3⟩ := h.ne
  exact ⟨h1, heap_keep h.x h2 (by simp; omega), heap_keep h.y h2 (by simp; omega), ⟨n1, n2, Nat.lt_of_lt_of_le n3 h2.size⟩, grownBy_trans h.grown h2, h.old⟩
theorem Bx.went (h : Bx w0 R X Y T k st bh cx cy w) (hw : Went R lit b w w') (hl : LitAt b k2 a2 e2) : Bx w0 R X Y T k2 a2 e2 cx cy w' := by
  obtain ⟨h1, h2⟩ := went_lit hw hl
  exact h.step h1 h2
theorem Bx.put (h : Bx w0 R X Y T k st bh cx cy w) (g : w.grownBy w' (some Y)) (hy : w'.heap[Y]? = some (.cells cz T (0, 0))) : Bx w0 R X Y T k st bh cx cz w' := by
  obtain ⟨n1, n2, n3⟩ := h.ne
  exact ⟨h.rd.kept g (by simp; omega), heap_keep h.x g (by simp; omega), hy, ⟨n1, n2, Nat.lt_of_lt_of_le n3 g.size⟩, grown_new h.grown g (fun k hk => by cases hk; have := h.old; omega), h.old⟩
set_option maxHeartbeats 8000000 in
theorem statement_lit (h : RdAt w R lit 3 12 13) :
    Calls Tryz.prog 107 #[.pointer (some ⟨R, 0, none⟩)] w (StepLit R w) := by
  have hlt := h.lt
  have H := Lib.hid h
  clear h
  go_enter Tryz.func107, Tryz.ntmps107
  go_upto_region 2 with fail
  have S0 := Lib.hid (Bx.start H.out #[.int .i64 0, .string ⟨#[]⟩, .slice none 0 0, .slice none 0 0, .slice none 0 0, .slice none 0 0, .string ⟨#[]⟩, .slice none 0 0, .int .i64 0, .int .i64 0, .int .i64 0, .slice none 0 0, .string ⟨#[]⟩, .slice none 0 0, .slice none 0 0] #[.int .i64 3, .string ⟨#[]⟩, .slice none 0 0, .slice none 0 0, .slice none 0 0, .slice none 0 0, .string ⟨#[]⟩, .slice none 0 0, .int .i64 0, .int .i64 0, .int .i64 0, .slice none 0 0, .string ⟨#[]⟩, .slice none 0 0, .slice none 0 0] 96 _ rfl)
  clear H
  generalize (w.alloc (.cells #[.int .i64 0, .string ⟨#[]⟩, .slice none 0 0, .slice none 0 0, .slice none 0 0, .slice none 0 0, .string ⟨#[]⟩, .slice none 0 0, .int .i64 0, .int .i64 0, .int .i64 0, .slice none 0 0, .string ⟨#[]⟩, .slice none 0 0, .slice none 0 0] 96)).alloc (.cells #[.int .i64 3, .string ⟨#[]⟩, .slice none 0 0, .slice none 0 0, .slice none 0 0, .slice none 0 0, .string ⟨#[]⟩, .slice none 0 0, .int .i64 0, .int .i64 0, .int .i64 0, .slice none 0 0, .string ⟨#[]⟩, .slice none 0 0, .slice none 0 0] 96) = v0 at *
  generalize hY : w.heap.size + 1 = Y at *
  go_upto_region 3 with (go_at_call 102; go_must (refine (name_yes S0.out.rd (by decide) (by decide) (by decide)).mono ?_; rintro e' w1 ⟨rfl, hw⟩; have S1 := Lib.hid (S0.out.went hw l13); obtain ⟨_, yf⟩ := box15_cells S1.out.y; obtain ⟨⟨y0, y1, y2, y3, y4, y5, y6, y7, y8, y9, y10, y11, y12, y13, y14⟩, _⟩ := box15_cells S1.out.y; clear hw))
  rw [nm12]
  have S2 := Lib.hid (S1.out.put (grown_set w1 Y 1 (.string ⟨#[115]⟩)) (box15_set1 S1.out.y _))
  clear yf y0 y1 y2 y3 y4 y5 y6 y7 y8 y9 y10 y11 y12 y13 y14
  generalize w1.setCell ⟨Y, 1, none⟩ (.string ⟨#[115]⟩) = w2 at *
  go_upto_region 4 with (go_at_call 101; go_must (refine (expect_yes (p := ⟨#[58]⟩) S2.out.rd (by decide) (by decide) (by decide) (by decide +kernel)).mono ?_; rintro e' w3 ⟨rfl, hw⟩; have S3 := Lib.hid (S2.out.went hw l14); clear hw))
  go_upto_region 5 with (go_at_call 134; go_must (refine (place_lit 1 S3.out.rd place1 (by decide +kernel) (by decide +kernel) (by omega)).mono ?_; rintro e' w4 ⟨v, rfl, ho, h4, g4⟩; rw [nm15]; obtain ⟨q1, pq, qcap, rfl, hq, hh⟩ := id ho; have n3 := S3.out.ne; have S4 := Lib.hid (S3.out.step h4 g4); have O4 := Lib.hid ho; obtain ⟨_, yf⟩ := box15_cells S4.out.y; obtain ⟨⟨y0, y1, y2, y3, y4, y5, y6, y7, y8, y9, y10, y11, y12, y13, y14⟩, _⟩ := box15_cells S4.out.y; clear ho h4 g4 hh))
  obtain ⟨f1, f2⟩ := box15_set67 S4.out.y (.string ⟨#[97]⟩) (.slice (some ⟨q1, 0, none⟩) 1 1)
  have S5 := Lib.hid (S4.out.put f2 f1)
  have O5 := Lib.hid (O4.out.other f2 (by simp; omega))
  clear f1 f2 O4 yf y0 y1 y2 y3 y4 y5 y6 y7 y8 y9 y10 y11 y12 y13 y14
  generalize ((w4.setCell ⟨Y, 6, none⟩ (.string ⟨#[97]⟩)).setCell ⟨Y, 7, none⟩ (.slice (some ⟨q1, 0, none⟩) 1 1)) = w5 at *
  go_upto_region 6 with (go_at_call 101; go_must (refine (expect_yes (p := ⟨#[61]⟩) S5.out.rd (by decide) (by decide) (by decide) (by decide +kernel)).mono ?_; rintro e' w6 ⟨rfl, hw⟩; have S6 := Lib.hid (S5.out.went hw l21); have O6 := Lib.hid (O5.out.other hw.2 (by simp; omega)); clear hw))
  go_upto_region 7 with (go_at_call 135; go_must (refine (sum_lit S6.out.rd).mono ?_; rintro e' w7 ⟨q, g, rfl, hg, hA, ho, h7, g7⟩; have n6 := S6.out.ne; have hqg := O6.out.lt; have hq6 : w6.heap.size ≤ q := (by obtain ⟨q', _, _, he', h1', _⟩ := ho; cases he'; exact h1'); have S7 := Lib.hid (S6.out.step h7 g7); have O7 := Lib.hid (O6.out.other g7 (by simp; omega)); have A7 : Hid (ArgsAt w7 g q) := hA; have P7 := Lib.hid ho; obtain ⟨_, yf⟩ := box15_cells S7.out.y; obtain ⟨⟨y0, y1, y2, y3, y4, y5, y6, y7, y8, y9, y10, y11, y12, y13, y14⟩, _⟩ := box15_cells S7.out.y; clear ho hA h7 g7))
  obtain ⟨f1, f2⟩ := box15_set8 S7.out.y (.int .i64 4) (.int .i64 0) (.int .i64 0) (.slice none 0 0) (.string ⟨#[]⟩) (.slice none 0 0) (.slice (some ⟨g, 0, none⟩) 2 2)
  have S8 := Lib.hid (S7.out.put f2 f1)
  have O8 := Lib.hid (O7.out.other f2 (by simp; omega))
  have P8 := Lib.hid (P7.out.other f2 (by simp; omega))
  have A8 : Hid (ArgsAt _ g q) := heap_keep A7.out f2 (by simp; omega)
  clear f1 f2 O7 P7 A7 yf y0 y1 y2 y3 y4 y5 y6 y7 y8 y9 y10 y11 y12 y13 y14
  generalize (((((((w7.setCell ⟨Y, 8, none⟩ (.int .i64 4)).setCell ⟨Y, 9, none⟩ (.int .i64 0)).setCell ⟨Y, 10, none⟩ (.int .i64 0)).setCell ⟨Y, 11, none⟩ (.slice none 0 0)).setCell ⟨Y, 12, none⟩ (.string ⟨#[]⟩)).setCell ⟨Y, 13, none⟩ (.slice none 0 0)).setCell ⟨Y, 14, none⟩ (.slice (some ⟨g, 0, none⟩) 2 2)) = w8 at *
  go_upto_region 8 with (go_at_call 101; go_must (refine (expect_yes (p := ⟨#[59]⟩) S8.out.rd (by decide) (by decide) (by decide) (by decide +kernel)).mono ?_; rintro e' w9 ⟨rfl, hw⟩; have S9 := Lib.hid (S8.out.went hw l31); have O9 := Lib.hid (O8.out.other hw.2 (by simp; omega)); have P9 := Lib.hid (P8.out.other hw.2 (by simp; omega)); have A9 : Hid (ArgsAt w9 g q) := heap_keep A8.out hw.2 (by simp; omega); obtain ⟨⟨y0, y1, y2, y3, y4, y5, y6, y7, y8, y9, y10, y11, y12, y13, y14⟩, yf⟩ := box15_cells S9.out.y; obtain ⟨⟨x0, x1, x2, x3, x4, x5, x6, x7, x8, x9, x10, x11, x12, x13, x14⟩, xf⟩ := box15_cells S9.out.x; clear hw))
  go_wp2_with fail
  have n9 := S9.out.ne
  obtain ⟨f1, f2⟩ := box15_set S9.out.x (.int .i64 3) (.string ⟨#[115]⟩) (.slice none 0 0) (.slice none 0 0) (.slice none 0 0) (.slice none 0 0) (.string ⟨#[97]⟩) (.slice (some ⟨q1, 0, none⟩) 1 1) (.int .i64 4) (.int .i64 0) (.int .i64 0) (.slice none 0 0) (.string ⟨#[]⟩) (.slice none 0 0) (.slice (some ⟨g, 0, none⟩) 2 2)
  exact bodyPost_ret (results_cell_row rfl _ _ w.heap.size _ _ _ _ rfl f1 Tryz.underlying96 rfl Tryz.infoStep) rfl ⟨q1, q, g, rfl, by omega, heap_keep A9.out f2 (by simp; omega), (O9.out.other f2 (by simp; omega)).from (by omega), (P9.out.other f2 (by simp; omega)).from (by omega), S9.out.rd.kept f2 (by simp; omega), grown_new S9.out.grown f2 (fun i hi => by cases hi; exact Nat.le_refl _)⟩
end Go.Proofs.YtblpknkgjkbacaaGreatDoor
