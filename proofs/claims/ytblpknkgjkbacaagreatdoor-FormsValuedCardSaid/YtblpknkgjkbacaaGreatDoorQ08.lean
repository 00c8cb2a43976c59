/-
 The reader's numbers. The one text that the law reads: where its words stand. The array of the text is read. has, Has: whether a list is a point. The points of a set when each condition is asked as soon as it is decided. Forms told by their coefficients. Tables of coefficients, told by their values. The library's contracts at this program. The greatest common divisor, and quotients that are rounded down. Tight conditions, as lists: the greatest common divisor of a row; of conditions with the same key the narrowest. Rows and forms side by side: what is made tight, merged, left out. A variable left out, or replaced: rows and forms side by side. Rows that are made: two rows added, a row divided.
-/
import Derived.Laws.Rows
import Derived.BigQuiet
import Derived.Deep.DeepMust
import Derived.Maps.OwnSet
import Derived.Sort.KeysCollected
import Derived.Shelf.SlLaysW
import Derived.Shelf.LaysM
import Derived.Ground.SlmcProg
import Derived.Ground.NamesProg
import Derived.StillTailTactics
import Derived.Deep.RegionHeld3
import Derived.Test.YtblpknkgjkbacaaGreatDoorQ02
import Derived.Test.YtblpknkgjkbacaaGreatDoorQ04
import Derived.Test.YtblpknkgjkbacaaGreatDoorQ05
import Derived.Test.YtblpknkgjkbacaaGreatDoorQ06
import Derived.Test.YtblpknkgjkbacaaGreatDoorQ07
namespace Go.Proofs.YtblpknkgjkbacaaGreatDoor
set_option linter.unusedVariables false
open Go.RowKit
variable {w w' : World} {R k st bh : Nat} {s p : ByteArray}
theorem grown_bytes (w : World) (e : TypeId) (s : ByteArray) (row : Option Nat) : w.grownBy (Lib.bytesWorld w e s) row :=
  ⟨rfl, rfl, rfl, by rw [Lib.bytesWorld_size]; omega, fun k hk _ => Lib.bytesWorld_at_old w e s k hk⟩
set_option maxRecDepth 100000 in
theorem atoi_any (x : ByteArray) (n : Int) (hl : x.size ≤ 18) (h : Lib.atoi x.data.toList = some n) (w : World) :
    Calls Tryz.prog 129 #[.string x] w (Gives (.tuple #[.int .i64 n, .nilIface]) w) := by
  have h1 : Calls Tryz.prog 129 #[.string x] w fun e w' => e = .returned (.tuple #[.int .i64 n, .nilIface]) ∧ ∃ t, w' = Lib.bytesWorld w (Tryz.atoi_ren.t 5) t := Any.strconv_Atoi Tryz.atoi x n hl h w
  refine h1.mono ?_
  rintro e w' ⟨rfl, t, rfl⟩
  exact ⟨rfl, grown_bytes _ _ _ _⟩
set_option maxHeartbeats 2000000 in
theorem number_yes (h : RdAt w R s 2 st bh) (hs : s.size ≤ 100000) (h1 : st ≤ bh) (h2 : bh ≤ s.size) (n : Int) (hl : (wordN s st bh).size ≤ 18) (hn : Lib.atoi (wordN s st bh).data.toList = some n) :
    Calls Tryz.prog 104 #[.pointer (some ⟨R, 0, none⟩)] w (fun e w' => e = .returned (.int .i64 n) ∧ Went R s bh w w') := by
  have H := Lib.hid h
  obtain ⟨c0, c1, c2, c3, c4, cf⟩ := h.cells
  clear h
  go_enter Tryz.func104, Tryz.ntmps104
  go_wp2_with (first
    | (go_at_call 100; go_must (refine (word_any H.out hs h1 h2).mono ?_; rintro e w1 ⟨rfl, hg⟩; have G := Lib.hid hg; clear hg))
    | (go_at_call 129; go_must (refine (atoi_any _ n hl hn _).mono ?_; rintro e w2 ⟨rfl, hg⟩; have G2 := Lib.hid (grownBy_trans G.out hg); clear hg))
    | (go_at_call 98; go_must (refine (rdNext_any (H.out.kept G2.out (by simp)) hs h2).mono ?_; rintro e w3 ⟨rfl, hw⟩; have HW := Lib.hid hw; clear hw)))
  go_ret
  exact ⟨rfl, HW.out.1, grownBy_trans (grownBy_any _ G2.out) HW.out.2⟩
end Go.Proofs.YtblpknkgjkbacaaGreatDoor
namespace Go.Proofs.YtblpknkgjkbacaaGreatDoor
open Go.RowKit
/-- The text. -/
def lit : ByteArray := ⟨#[97, 114, 114, 97, 121, 32, 97, 91, 50, 93, 59, 32, 115, 58, 32, 97, 91, 49, 93, 32, 61, 32, 97, 91, 48, 93, 32, 43, 32, 55, 59]⟩
def LitAt (b k a e : Nat) : Prop := kindN lit b = k ∧ atN lit b = a ∧ behindN lit b = e
instance (b k a e : Nat) : Decidable (LitAt b k a e) := by unfold LitAt; infer_instance
theorem l0 : LitAt 0 4 0 5 := by decide +kernel
theorem l5 : LitAt 5 3 6 7 := by decide +kernel
theorem l7 : LitAt 7 4 7 8 := by decide +kernel
theorem l8 : LitAt 8 2 8 9 := by decide +kernel
theorem l9 : LitAt 9 4 9 10 := by decide +kernel
theorem l10 : LitAt 10 4 10 11 := by decide +kernel
theorem l11 : LitAt 11 3 12 13 := by decide +kernel
theorem l13 : LitAt 13 4 13 14 := by decide +kernel
theorem l14 : LitAt 14 3 15 16 := by decide +kernel
theorem l21 : LitAt 21 3 22 23 := by decide +kernel
theorem l28 : LitAt 28 2 29 30 := by decide +kernel
theorem l30 : LitAt 30 4 30 31 := by decide +kernel
theorem l31 : LitAt 31 0 31 31 := by decide +kernel
theorem n8 : Lib.atoi (wordN lit 8 9).data.toList = some 2 := by decide +kernel
theorem i4 : isN lit 4 0 5 ⟨#[97, 114, 114, 97, 121]⟩ = true := by decide +kernel
end Go.Proofs.YtblpknkgjkbacaaGreatDoor
namespace Go.Proofs.YtblpknkgjkbacaaGreatDoor
open Go.RowKit
variable {w w' : World} {R k a e b : Nat}
theorem went_lit (h : Went R lit b w w') (hl : LitAt b k a e) : RdAt w' R lit k a e ∧ w.grownBy w' (some R) := by
  obtain ⟨h1, h2⟩ := h
  obtain ⟨rfl, rfl, rfl⟩ := hl
  exact ⟨h1, h2⟩
theorem RdAt.lt {s : ByteArray} {k st bh : Nat} (h : RdAt w R s k st bh) : R < w.heap.size := (Array.getElem?_eq_some_iff.1 h).1
set_option maxHeartbeats 2000000 in
theorem several_num (h : RdAt w R lit 2 8 9) :
    Calls Tryz.prog 103 #[.pointer (some ⟨R, 0, none⟩), .func (.func 104) #[.pointer (some ⟨R, 0, none⟩)] #[]] w (fun e w' => ∃ b, e = .returned (.slice (some ⟨b, 0, none⟩) 1 1) ∧ w.heap.size ≤ b ∧ w'.heap[b]? = some (.cells #[.int .i64 2] 3 (0, 0)) ∧ RdAt w' R lit 4 9 10 ∧ w.grownBy w' (some R)) := by
  have hlt := h.lt
  have H := Lib.hid h
  clear h
  go_enter Tryz.func103, Tryz.ntmps103
  go_upto_region 2 with (go_at_call 104; go_must (refine (number_yes H.out (by decide) (by decide) (by decide) 2 (by decide) n8).mono ?_; rintro e w1 ⟨rfl, hw⟩; obtain ⟨h1, g1⟩ := went_lit hw l9; have H1 := Lib.hid h1; have G1 := Lib.hid g1; clear hw h1 g1))
  refine wp_loop_once ?_
  have ha := World.grownBy_alloc w1 (.cells #[.int .i64 2] 3) none
  have H2 := Lib.hid (H1.out.kept ha (by simp))
  have B2 := Lib.hid (heap_alloc_new w1 (.cells #[.int .i64 2] 3))
  have G2 := Lib.hid (grownBy_trans G1.out (grownBy_any _ ha))
  have hs1 := G1.out.size
  clear ha
  go_wp2_with (go_at_call 128; go_must (refine (accept_no (p := ⟨#[44]⟩) H2.out (by decide) (by decide) (by decide) (by decide +kernel)).mono ?_; rintro e w2 ⟨rfl, hg⟩; have H3 := Lib.hid (H2.out.kept hg (by simp)); have B3 := Lib.hid (heap_keep B2.out hg (by simp)); have G3 := Lib.hid (grownBy_trans G2.out (grownBy_any _ hg)); clear hg))
  go_ret
  exact ⟨w1.heap.size, rfl, hs1, B3.out, H3.out, G3.out⟩
theorem two_cells {X : Nat} {a b : Value} {T : TypeId} (h : w.heap[X]? = some (.cells #[a, b] T (0, 0))) : w.cell? ⟨X, 0, none⟩ = some a ∧ w.cell? ⟨X, 1, none⟩ = some b ∧ ∀ j, w.frozen? ⟨X, j, none⟩ = false :=
  ⟨by unfold World.cell?; rw [h]; rfl, by unfold World.cell?; rw [h]; rfl, fun j => by simp [World.frozen?, h]⟩
theorem two_set0 {X : Nat} {a b : Value} {T : TypeId} (h : w.heap[X]? = some (.cells #[a, b] T (0, 0))) (v : Value) : (w.setCell ⟨X, 0, none⟩ v).heap[X]? = some (.cells #[v, b] T (0, 0)) := by simp [World.setCell, Array.getElem?_modify, h]
theorem two_set1 {X : Nat} {a b : Value} {T : TypeId} (h : w.heap[X]? = some (.cells #[a, b] T (0, 0))) (v : Value) : (w.setCell ⟨X, 1, none⟩ v).heap[X]? = some (.cells #[a, v] T (0, 0)) := by simp [World.setCell, Array.getElem?_modify, h]
theorem grown_new {a b c : World} {r q : Option Nat} (h : a.grownBy b q) (k : b.grownBy c r) (hr : ∀ i, r = some i → a.heap.size ≤ i) : a.grownBy c q :=
  ⟨k.os.trans h.os, k.tape.trans h.tape, k.output.trans h.output, Nat.le_trans h.size k.size, fun i hi hq => (k.block i (Nat.lt_of_lt_of_le hi h.size) (fun e => by have := hr i e.symm; omega)).trans (h.block i hi hq)⟩
theorem Tryz.infoArr : (Tryz.prog.info? 129).map (·.size) = some 2 := by kernel_rfl
theorem nm6 : wordN lit 6 7 = ⟨#[97]⟩ := by decide +kernel
/-- Reading goes on: the reader, and two boxes of two cells. -/
structure Two (w0 : World) (R X Y : Nat) (T : TypeId) (k st bh : Nat) (c d a b : Value) (w : World) : Prop where
  rd : RdAt w R lit k st bh
  x : w.heap[X]? = some (.cells #[c, d] T (0, 0))
  y : w.heap[Y]? = some (.cells #[a, b] T (0, 0))
  ne : R < X ∧ X < Y ∧ Y < w.heap.size
  grown : w0.grownBy w (some R)
  old : w0.heap.size ≤ X
variable {w0 : World} {X Y st bh k2 a2 e2 : Nat} {T : TypeId} {va vb vc vd : Value}
theorem Two.went (h : Two w0 R X Y T k st bh vc vd va vb w) (hw : Went R lit b w w') (hl : LitAt b k2 a2 e2) : Two w0 R X Y T k2 a2 e2 vc vd va vb w' := by
  obtain ⟨h1, h2⟩ := went_lit hw hl
  obtain ⟨n1, n2, n3⟩ := h.ne
  exact ⟨h1, heap_keep h.x h2 (by simp; omega), heap_keep h.y h2 (by simp; omega), ⟨n1, n2, Nat.lt_of_lt_of_le n3 h2.size⟩, grownBy_trans h.grown h2, h.old⟩
theorem Two.step (h : Two w0 R X Y T k st bh vc vd va vb w) (h1 : RdAt w' R lit k2 a2 e2) (h2 : w.grownBy w' (some R)) : Two w0 R X Y T k2 a2 e2 vc vd va vb w' := by
  obtain ⟨n1, n2, n3⟩ := h.ne
  exact ⟨h1, heap_keep h.x h2 (by simp; omega), heap_keep h.y h2 (by simp; omega), ⟨n1, n2, Nat.lt_of_lt_of_le n3 h2.size⟩, grownBy_trans h.grown h2, h.old⟩
theorem Two.set0 (h : Two w0 R X Y T k st bh vc vd va vb w) (v : Value) : Two w0 R X Y T k st bh vc vd v vb (w.setCell ⟨Y, 0, none⟩ v) := by
  obtain ⟨n1, n2, n3⟩ := h.ne
  have g := grown_set w Y 0 v
  exact ⟨h.rd.kept g (by simp; omega), heap_keep h.x g (by simp; omega), two_set0 h.y v, ⟨n1, n2, Nat.lt_of_lt_of_le n3 g.size⟩, grown_new h.grown g (fun k hk => by cases hk; have := h.old; omega), h.old⟩
theorem Two.set1 (h : Two w0 R X Y T k st bh vc vd va vb w) (v : Value) : Two w0 R X Y T k st bh vc vd va v (w.setCell ⟨Y, 1, none⟩ v) := by
  obtain ⟨n1, n2, n3⟩ := h.ne
  have g := grown_set w Y 1 v
  exact ⟨h.rd.kept g (by simp; omega), heap_keep h.x g (by simp; omega), two_set1 h.y v, ⟨n1, n2, Nat.lt_of_lt_of_le n3 g.size⟩, grown_new h.grown g (fun k hk => by cases hk; have := h.old; omega), h.old⟩
theorem Two.start (h : RdAt w R lit k st bh) (w1 : World) (h1 : w1 = (w.alloc (.cells #[va, vb] T)).alloc (.cells #[va, vb] T)) : Two w R w.heap.size (w.heap.size + 1) T k st bh va vb va vb w1 := by
  have hlt := h.lt
  have g1 := World.grownBy_alloc w (.cells #[va, vb] T)
  have g2 := World.grownBy_alloc (w.alloc (.cells #[va, vb] T)) (.cells #[va, vb] T)
  rw [← h1] at g2
  have hs : w1.heap.size = w.heap.size + 1 + 1 := by rw [h1, World.size_alloc, World.size_alloc]
  refine ⟨h.kept (grownBy_trans (g1 none) (g2 none)) (by simp), heap_keep (heap_alloc_new w _) (g2 none) (by simp), ?_, ⟨hlt, by omega, by omega⟩, grownBy_any _ (grownBy_trans (g1 none) (g2 none)), Nat.le_refl _⟩
  rw [h1]
  have := heap_alloc_new (w.alloc (.cells #[va, vb] T)) (.cells #[va, vb] T)
  rwa [World.size_alloc] at this
set_option maxHeartbeats 4000000 in
theorem array_lit (h : RdAt w R lit 4 0 5) :
    Calls Tryz.prog 78 #[.pointer (some ⟨R, 0, none⟩)] w (fun e w' => ∃ b, e = .returned (.agg #[.string ⟨#[97]⟩, .slice (some ⟨b, 0, none⟩) 1 1]) ∧ w.heap.size ≤ b ∧ w'.heap[b]? = some (.cells #[.int .i64 2] 3 (0, 0)) ∧ RdAt w' R lit 3 12 13 ∧ w.grownBy w' (some R)) := by
  have hlt := h.lt
  have H := Lib.hid h
  clear h
  go_enter Tryz.func78, Tryz.ntmps78
  go_upto_region 2 with fail
  have S0 := Lib.hid (Two.start (va := .string ⟨#[]⟩) (vb := .slice none 0 0) (T := 129) H.out _ rfl)
  clear H
  generalize (w.alloc (.cells #[.string ⟨#[]⟩, .slice none 0 0] 129)).alloc (.cells #[.string ⟨#[]⟩, .slice none 0 0] 129) = v0 at *
  generalize hY : w.heap.size + 1 = Y at *
  go_upto_region 3 with (go_at_call 101; go_must (refine (expect_yes (p := ⟨#[97, 114, 114, 97, 121]⟩) S0.out.rd (by decide) (by decide) (by decide) (by decide +kernel)).mono ?_; rintro e w1 ⟨rfl, hw⟩; have S1 := Lib.hid (S0.out.went hw l5); clear hw))
  go_upto_region 4 with (go_at_call 102; go_must (refine (name_yes S1.out.rd (by decide) (by decide) (by decide)).mono ?_; rintro e w2 ⟨rfl, hw⟩; have S2 := Lib.hid (S1.out.went hw l7); clear hw; obtain ⟨y0, y1, yf⟩ := two_cells S2.out.y))
  have S3 := Lib.hid (S2.out.set0 (.string (wordN lit 6 7)))
  clear y0 y1 yf
  generalize w2.setCell ⟨Y, 0, none⟩ (.string (wordN lit 6 7)) = w3 at *
  go_upto_region 5 with (go_at_call 101; go_must (refine (expect_yes (p := ⟨#[91]⟩) S3.out.rd (by decide) (by decide) (by decide) (by decide +kernel)).mono ?_; rintro e w4 ⟨rfl, hw⟩; have S4 := Lib.hid (S3.out.went hw l8); clear hw))
  go_upto_region 6 with (go_at_call 103; go_must (refine (several_num S4.out.rd).mono ?_; rintro e w5 ⟨b, rfl, hb, hB, h1, h2⟩; have S5 := Lib.hid (S4.out.step h1 h2); have B5 := Lib.hid hB; have n4 := S4.out.ne; obtain ⟨y0, y1, yf⟩ := two_cells S5.out.y; clear hB h1 h2))
  have S6 := Lib.hid (S5.out.set1 (.slice (some ⟨b, 0, none⟩) 1 1))
  have B6 := Lib.hid (heap_keep B5.out (grown_set w5 Y 1 (.slice (some ⟨b, 0, none⟩) 1 1)) (by simp; omega))
  clear y0 y1 yf B5
  generalize w5.setCell ⟨Y, 1, none⟩ (.slice (some ⟨b, 0, none⟩) 1 1) = w6 at *
  have T1 := ()
  have hRb : R < b := by omega
  go_upto_region 8 with (go_at_call 101; go_must (first
    | (clear T1; refine (expect_yes (p := ⟨#[93]⟩) S6.out.rd (by decide) (by decide) (by decide) (by decide +kernel)).mono ?_; rintro e w7 ⟨rfl, hw⟩; have S7 := Lib.hid (S6.out.went hw l10); have B7 := Lib.hid (heap_keep B6.out hw.2 (by simp; omega)); clear hw)
    | (refine (expect_yes (p := ⟨#[59]⟩) S7.out.rd (by decide) (by decide) (by decide) (by decide +kernel)).mono ?_; rintro e w8 ⟨rfl, hw⟩; have S8 := Lib.hid (S7.out.went hw l11); have B8 := Lib.hid (heap_keep B7.out hw.2 (by simp; omega)); obtain ⟨y0, y1, yf⟩ := two_cells S8.out.y; obtain ⟨x0, x1, xf⟩ := two_cells S8.out.x; clear hw)))
  go_wp2_with fail
  obtain ⟨f1, f2⟩ := two_set S8.out.x (.string (wordN lit 6 7)) (.slice (some ⟨b, 0, none⟩) 1 1)
  have n8' := S8.out.ne
  exact bodyPost_ret (results_cell_row rfl _ _ w.heap.size _ _ _ _ rfl f1 Tryz.underlying129 rfl Tryz.infoArr) rfl ⟨b, by rw [nm6], by omega, heap_keep B8.out f2 (by simp; omega), S8.out.rd.kept f2 (by simp; omega), grown_new S8.out.grown f2 (fun k hk => by cases hk; exact Nat.le_refl _)⟩
end Go.Proofs.YtblpknkgjkbacaaGreatDoor
namespace Go.Proofs.YtblpknkgjkbacaaGreatDoor
open Go.RowKit
/-- Names that rise. -/
def upB (a b : ByteArray) : Prop := Op.bytesLess a.toList b.toList = true
def Ups (ts : List (ByteArray × Int)) : Prop := ts.Pairwise fun a b => upB a.1 b.1
theorem upB_irrefl (a : ByteArray) : ¬ upB a a := by unfold upB; rw [bytesLess_irrefl]; simp
theorem upB_trans {a b c : ByteArray} (h : upB a b) (k : upB b c) : upB a c := bytesLess_trans _ _ _ h k
/-- Two lists of terms that rise and have the same terms are one. -/
theorem ups_ext : ∀ {u v : List (ByteArray × Int)}, Ups u → Ups v → (∀ t, t ∈ u ↔ t ∈ v) → u = v
  | [], [], _, _, _ => rfl
  | [], b :: v, _, _, h => by have := (h b).2 (by simp); simp at this
  | a :: u, [], _, _, h => by have := (h a).1 (by simp); simp at this
  | a :: u, b :: v, hu, hv, h => by
    obtain ⟨hu1, hu2⟩ := List.pairwise_cons.1 hu
    obtain ⟨hv1, hv2⟩ := List.pairwise_cons.1 hv
    have hab : a = b := by
      rcases List.mem_cons.1 ((h a).1 (by simp)) with e | hav
      · exact e
      · rcases List.mem_cons.1 ((h b).2 (by simp)) with e | hbu
        · exact e.symm
        · exact absurd (upB_trans (hu1 b hbu) (hv1 a hav)) (upB_irrefl _)
    subst hab
    refine congrArg (a :: ·) (ups_ext hu2 hv2 fun t => ?_)
    have ht := h t
    constructor
    · intro htu
      rcases List.mem_cons.1 (ht.1 (List.mem_cons_of_mem _ htu)) with e | k
      · subst e; exact absurd (hu1 _ htu) (upB_irrefl _)
      · exact k
    · intro htv
      rcases List.mem_cons.1 (ht.2 (List.mem_cons_of_mem _ htv)) with e | k
      · subst e; exact absurd (hv1 _ htv) (upB_irrefl _)
      · exact k
/-- A form told by its number and its coefficients. -/
structure FormX (X : ByteArray → Int) (c : Int) (f : CondD) : Prop where
  num : f.1 = c
  ups : Ups f.2
  mem : ∀ n z, (n, z) ∈ f.2 ↔ n ≠ ByteArray.empty ∧ z ≠ 0 ∧ X n = z
theorem formX_eq {X Y : ByteArray → Int} {c : Int} {f g : CondD} (hf : FormX X c f) (hg : FormX Y c g) (h : ∀ n, n ≠ ByteArray.empty → X n = Y n) : f = g := by
  obtain ⟨f1, f2⟩ := f
  obtain ⟨g1, g2⟩ := g
  have e1 := hf.num
  have e2 := hg.num
  simp only at e1 e2
  have e3 : f2 = g2 := ups_ext hf.ups hg.ups fun t => by
    obtain ⟨n, z⟩ := t
    rw [hf.mem n z, hg.mem n z]
    constructor
    · rintro ⟨a, b, d⟩; exact ⟨a, b, by rw [← h n a]; exact d⟩
    · rintro ⟨a, b, d⟩; exact ⟨a, b, by rw [h n a]; exact d⟩
  rw [e1, e2, e3]
/-- The coefficient of a name. -/
def coefX (ts : List (ByteArray × Int)) (n : ByteArray) : Int := match ts.find? (fun t => t.1.toList == n.toList) with | some t => t.2 | none => 0
theorem coefX_cons (t : ByteArray × Int) (r : List (ByteArray × Int)) (n : ByteArray) : coefX (t :: r) n = if t.1 = n then t.2 else coefX r n := by
  unfold coefX
  rw [List.find?_cons]
  by_cases h : t.1 = n
  · subst h
    simp
  · have : (t.1.toList == n.toList) = false := by
      rw [beq_eq_false_iff_ne]
      exact fun e => h (bytes_ext e)
    rw [this, if_neg h]
theorem coefX_mem {ts : List (ByteArray × Int)} (hd : ts.Pairwise fun a b => a.1 ≠ b.1) {n : ByteArray} {z : Int} (h : (n, z) ∈ ts) : coefX ts n = z := by
  induction ts with
  | nil => cases h
  | cons t r ih =>
    obtain ⟨h1, h2⟩ := List.pairwise_cons.1 hd
    rw [coefX_cons]
    rcases List.mem_cons.1 h with rfl | h
    · rw [if_pos rfl]
    · rw [if_neg (h1 _ h), ih h2 h]
theorem coefX_hit {ts : List (ByteArray × Int)} {n : ByteArray} (h : coefX ts n ≠ 0) : (n, coefX ts n) ∈ ts := by
  induction ts with
  | nil => exact absurd rfl h
  | cons t r ih =>
    rw [coefX_cons] at h ⊢
    by_cases e : t.1 = n
    · rw [if_pos e]
      subst e
      simp
    · rw [if_neg e] at h ⊢
      exact List.mem_cons_of_mem _ (ih h)
theorem coefX_none {ts : List (ByteArray × Int)} {n : ByteArray} (h : ∀ t ∈ ts, t.1 ≠ n) : coefX ts n = 0 := by
  induction ts with
  | nil => rfl
  | cons t r ih =>
    rw [coefX_cons, if_neg (h t (by simp)), ih fun u hu => h u (List.mem_cons_of_mem _ hu)]
end Go.Proofs.YtblpknkgjkbacaaGreatDoor
namespace Go.Proofs.YtblpknkgjkbacaaGreatDoor
open Go.RowKit Go.Maps Go.WideMaps
/-- A table with such values; what it lacks is 0. -/
structure TabIs (D : Table) (X : ByteArray → Int) : Prop where
  map : IsMap D
  at_ : ∀ n, D.atKey (strL n) (lit64 0) = lit64 (X n)
theorem tab_start : TabIs (.map []) (fun _ => 0) := ⟨isMap_empty, fun _ => rfl⟩
theorem TabIs.put {D : Table} {X : ByteArray → Int} (h : TabIs D X) (n : ByteArray) (z : Int) : TabIs (D.put (strL n) (lit64 z)) (fun m => if m = n then z else X m) := by
  refine ⟨h.map.put _ _, fun m => ?_⟩
  by_cases e : m = n
  · subst e
    simp only [if_true]
    exact atKey_put_same h.map (strL_key _) _ _
  · rw [if_neg e, atKey_put_other (fun e2 => e (strL_inj e2))]
    exact h.at_ m
theorem TabIs.del {D : Table} {X : ByteArray → Int} (h : TabIs D X) (n : ByteArray) : TabIs (D.del (strL n)) (fun m => if m = n then 0 else X m) := by
  refine ⟨h.map.del _, fun m => ?_⟩
  by_cases e : m = n
  · subst e
    simp only [if_true]
    exact atKey_del_same _
  · rw [if_neg e, atKey_del_other (fun e2 => e (strL_inj e2))]
    exact h.at_ m
theorem TabIs.cong {D : Table} {X Y : ByteArray → Int} (h : TabIs D X) (he : ∀ n, X n = Y n) : TabIs D Y := ⟨h.map, fun n => by rw [← he n]; exact h.at_ n⟩
theorem lit64_inj {a b : Int} (h : lit64 a = lit64 b) : a = b := by simpa [lit64] using h
/-- The values of a form's table. -/
def polyX (c : Int) (ts : List (ByteArray × Int)) (n : ByteArray) : Int := if n = ByteArray.empty then c else coefX ts n
theorem PolyD.tab {D : Table} {c : Int} {ts : List (ByteArray × Int)} (h : PolyD D c ts) (hg : formErr c ts = 0) : TabIs D (polyX c ts) := by
  obtain ⟨h1, h2, h3, h4⟩ := h
  obtain ⟨_, _, hts, hpw⟩ := form_good hg
  refine ⟨h1, fun n => ?_⟩
  unfold polyX
  by_cases e : n = ByteArray.empty
  · rw [if_pos e, e]
    exact h2 _
  · rw [if_neg e]
    by_cases hm : ∃ t ∈ ts, t.1 = n
    · obtain ⟨t, ht, rfl⟩ := hm
      rw [h3 t ht, coefX_mem hpw (z := t.2) ht]
    · have hnone : ∀ t ∈ ts, t.1 ≠ n := fun t ht e2 => hm ⟨t, ht, e2⟩
      rw [coefX_none hnone]
      refine atKey_of_not_has ?_ _
      rw [Bool.eq_false_iff]
      intro hh
      rcases h4 _ hh with e2 | ⟨t, ht, e2⟩
      · exact e (strL_inj e2)
      · exact hnone t ht (strL_inj e2).symm
/-- A look-up. -/
theorem tab_look {D : Table} {X : ByteArray → Int} {B k : Nat} {w : World} (hM : MapAt w B k D) (hT : TabIs D X) {n : ByteArray} (hs : n.size ≤ maxLen) :
    (Instr.lookup 78 (.map (some B)) (.string n) false).run Tryz.prog w = .ok (.int .i64 (X n)) w := by
  obtain ⟨c, hr, ha, _⟩ := World.ownsMap.lookup_int (q := .i64) hM Tryz.lawStr Tryz.underlying78 Tryz.underlying3 (Tryz.zeroInt w) (key_str hs)
  have : c = X n := lit64_inj (ha.symm.trans (hT.at_ n))
  rw [← this]
  exact hr
/-- Is a name a key? -/
theorem tab_has {D : Table} {X : ByteArray → Int} (h : TabIs D X) {n : ByteArray} (hx : X n ≠ 0) : has D (strL n) = true := by
  cases hh : has D (strL n)
  · have h1 := atKey_of_not_has hh (lit64 0)
    rw [h.at_ n] at h1
    exact absurd (lit64_inj h1) hx
  · rfl
/-- What has been gone through. -/
def doneY (left : Lit → Bool) (Y : ByteArray → Int) (m : ByteArray) : Int := if left (strL m) = true then 0 else Y m
theorem doneY_start {D : Table} {Y : ByteArray → Int} (h : TabIs D Y) (m : ByteArray) : doneY (has D) Y m = 0 := by
  unfold doneY
  split
  · rfl
  · rename_i hh
    cases hz : decide (Y m = 0)
    · exact absurd (tab_has h (of_decide_eq_false hz)) hh
    · exact of_decide_eq_true hz
theorem doneY_step {left : Lit → Bool} {Y : ByteArray → Int} {x : ByteArray} (m : ByteArray) : doneY (fun z => left z && !z.sameKey (strL x)) Y m = if m = x then Y x else doneY left Y m := by
  unfold doneY
  by_cases e : m = x
  · subst e
    simp [WideAt.sameKey_self (strL_key m)]
  · rw [if_neg e]
    have : (strL m).sameKey (strL x) = false := sameKey_ne (fun e2 => e (strL_inj e2))
    simp [this]
end Go.Proofs.YtblpknkgjkbacaaGreatDoor

namespace Go.Proofs.YtblpknkgjkbacaaGreatDoor
open Go.RowKit
theorem wrap_near {x : Int} (h : -9223372036854775808 ≤ x ∧ x ≤ 9223372036854775807) : IntKind.i64.wrap x = x := by
  rw [IntKind.wrap_i64]
  omega
end Go.Proofs.YtblpknkgjkbacaaGreatDoor
