/-
 rowOf: a form as a row.
-/
import Derived.Test.YtjgddagladmgoaaRow
import Derived.Test.YtjgddagladmgoaaCheck
import Derived.Test.YtjgddagladmgoaaPoints
import Derived.Deep.RegionHeld3
import Derived.Deep.DeepCutAuto
import Derived.Deep.RegionLaw
namespace Go.Proofs.Ytjgddagladmgoaa
open Go.RowKit
attribute [local go_sem ↓] Go.wp_at_zero Go.wp_at_succ

def placeN (l : List SideD) (t : ByteArray × Int) : Nat := (firstI (sameName t.1) l).toNat
def coefsOf (l : List SideD) (ts : List (ByteArray × Int)) : List Int := ts.foldl (fun cs t => cs.set (placeN l t) t.2) (List.replicate l.length 0)

theorem coefs_snoc {l : List SideD} {ts : List (ByteArray × Int)} {k : Nat} {t : ByteArray × Int} (h : ts[k]? = some t) : coefsOf l (ts.take (k + 1)) = (coefsOf l (ts.take k)).set (placeN l t) t.2 := by
  obtain ⟨hk, rfl⟩ := List.getElem?_eq_some_iff.1 h
  unfold coefsOf
  rw [List.take_succ_eq_append_getElem hk, List.foldl_append]
  rfl
theorem foldl_set_length {l : List SideD} : ∀ (ts : List (ByteArray × Int)) (cs : List Int), (ts.foldl (fun cs t => cs.set (placeN l t) t.2) cs).length = cs.length
  | [], _ => rfl
  | t :: r, cs => by rw [List.foldl_cons, foldl_set_length r]; simp
theorem coefs_length (l : List SideD) (ts : List (ByteArray × Int)) : (coefsOf l ts).length = l.length := by
  unfold coefsOf
  rw [foldl_set_length]
  simp
theorem foldl_set_bound {l : List SideD} : ∀ (ts : List (ByteArray × Int)) (cs : List Int), (∀ t ∈ ts, -1000 ≤ t.2 ∧ t.2 ≤ 1000) → (∀ c ∈ cs, -1000 ≤ c ∧ c ≤ 1000) → ∀ c ∈ ts.foldl (fun cs t => cs.set (placeN l t) t.2) cs, -1000 ≤ c ∧ c ≤ 1000
  | [], _, _, h => h
  | t :: r, cs, ht, h => by
    rw [List.foldl_cons]
    refine foldl_set_bound r _ (fun t ht' => ht t (by simp [ht'])) fun c hc => ?_
    rcases List.mem_or_eq_of_mem_set hc with hc | rfl
    · exact h c hc
    · exact ht t (by simp)
theorem coefs_good {c : Int} {l : List SideD} {ts : List (ByteArray × Int)} (hf : formErr c ts = 0) : goodRow l.length (c, coefsOf l ts) := by
  obtain ⟨h1, _, h3, _⟩ := form_good hf
  refine ⟨coefs_length l ts, h1, foldl_set_bound ts _ (fun t ht => (h3 t ht).2) fun c hc => ?_⟩
  have := List.eq_of_mem_replicate hc
  omega

theorem firstI_lt {α : Type} {q : α → Bool} {l : List α} (h : l.any q = true) : ∃ k : Nat, firstI q l = k ∧ k < l.length := by
  unfold firstI
  cases hf : l.findIdx? q with
  | some k =>
    obtain ⟨hk, _⟩ := List.findIdx?_eq_some_iff_getElem.1 hf
    exact ⟨k, rfl, hk⟩
  | none =>
    rw [List.findIdx?_eq_none_iff] at hf
    rw [List.any_eq_true] at h
    obtain ⟨x, hx, hq⟩ := h
    rw [hf x hx] at hq
    cases hq

/-- The row that is made: where it lies. -/
structure MadeRow (w0 w : World) (Rb Cb : Nat) (c : Int) (n : Nat) (cs : List Int) : Prop where
  grown : w0.grownBy w none
  newR : w0.heap.size + 2 ≤ Rb
  newC : w0.heap.size + 2 ≤ Cb
  ne : Rb ≠ Cb
  row : w.heap[Rb]? = some (.cells #[.int .i64 c, .slice (some ⟨Cb, 0, none⟩) n n] 90 (0, 0))
  cells : w.heap[Cb]? = some (.cells (cs.map (Value.int .i64)).toArray 3 (0, 0))
  len : cs.length = n
  res : w.heap[w0.heap.size + 1]? = some (.cells #[.int .i64 0, .slice none 0 0] 90 (0, 0))

theorem made_start1 (w : World) (v : Value) (c : Int) (n : Nat) :
    MadeRow w (((((w.alloc (.cells #[.int .i64 c, v] 57)).alloc (.cells #[.int .i64 0, .slice none 0 0] 90)).alloc (.cells (zeros n) 3)).alloc
      (.cells #[.int .i64 c, .slice (some ⟨w.heap.size + 1 + 1, 0, none⟩) n n] 90)).drew) (w.heap.size + 1 + 1 + 1) (w.heap.size + 1 + 1) c n (List.replicate n 0) := by
  have hh : (((((w.alloc (.cells #[.int .i64 c, v] 57)).alloc (.cells #[.int .i64 0, .slice none 0 0] 90)).alloc (.cells (zeros n) 3)).alloc
      (.cells #[.int .i64 c, .slice (some ⟨w.heap.size + 1 + 1, 0, none⟩) n n] 90)).drew).heap = (((w.heap.push (.cells #[.int .i64 c, v] 57)).push (.cells #[.int .i64 0, .slice none 0 0] 90)).push (.cells (zeros n) 3)).push
      (.cells #[.int .i64 c, .slice (some ⟨w.heap.size + 1 + 1, 0, none⟩) n n] 90) := rfl
  refine ⟨grownBy_trans (World.grownBy_alloc _ _ _) (grownBy_trans (World.grownBy_alloc _ _ _) (grownBy_trans (World.grownBy_alloc _ _ _) (grown_ad _ _ _))), by omega, by omega, by omega, ?_, ?_, by simp, ?_⟩
  all_goals
    rw [hh]
    simp only [Array.getElem?_push, Array.size_push]
    repeat (first | rw [if_pos (by omega)] | rw [if_neg (by omega)])
    first | rfl | simp [zeros]
theorem made_start2 (w : World) (v : Value) (c : Int) (n : Nat) :
    MadeRow w (((((w.alloc (.cells #[.int .i64 c, v] 57)).alloc (.cells #[.int .i64 0, .slice none 0 0] 90)).alloc
      (.cells #[.int .i64 c, .slice (some ⟨w.heap.size + 1 + 1 + 1, 0, none⟩) n n] 90)).alloc (.cells (zeros n) 3)).drew) (w.heap.size + 1 + 1) (w.heap.size + 1 + 1 + 1) c n (List.replicate n 0) := by
  have hh : (((((w.alloc (.cells #[.int .i64 c, v] 57)).alloc (.cells #[.int .i64 0, .slice none 0 0] 90)).alloc
      (.cells #[.int .i64 c, .slice (some ⟨w.heap.size + 1 + 1 + 1, 0, none⟩) n n] 90)).alloc (.cells (zeros n) 3)).drew).heap = (((w.heap.push (.cells #[.int .i64 c, v] 57)).push (.cells #[.int .i64 0, .slice none 0 0] 90)).push
      (.cells #[.int .i64 c, .slice (some ⟨w.heap.size + 1 + 1 + 1, 0, none⟩) n n] 90)).push (.cells (zeros n) 3) := rfl
  refine ⟨grownBy_trans (World.grownBy_alloc _ _ _) (grownBy_trans (World.grownBy_alloc _ _ _) (grownBy_trans (World.grownBy_alloc _ _ _) (grown_ad _ _ _))), by omega, by omega, by omega, ?_, ?_, by simp, ?_⟩
  all_goals
    rw [hh]
    simp only [Array.getElem?_push, Array.size_push]
    repeat (first | rw [if_pos (by omega)] | rw [if_neg (by omega)])
    first | rfl | simp [zeros]

theorem cell_box (w : World) (v : Value) (c : Int) (o1 o2 o3 : Obj) : (((((w.alloc (.cells #[.int .i64 c, v] 57)).alloc o1).alloc o2).alloc o3).drew).cell? ⟨w.heap.size, 1, none⟩ = some v :=
  (grownBy_trans (World.grownBy_alloc _ _ _) (grownBy_trans (World.grownBy_alloc _ _ _) (grown_ad _ _ none))).cell (by simp) (by simp)

theorem MadeRow.kept {w0 w w' : World} {Rb Cb : Nat} {c : Int} {n : Nat} {cs : List Int} (h : MadeRow w0 w Rb Cb c n cs) (hg : w.grownBy w' none) : MadeRow w0 w' Rb Cb c n cs := by
  have lt : ∀ {k : Nat} {o : Obj}, w.heap[k]? = some o → w'.heap[k]? = some o := fun hk => (hg.block _ (Array.getElem?_eq_some_iff.1 hk).1 (by simp)).trans hk
  exact ⟨grownBy_trans h.grown hg, h.newR, h.newC, h.ne, lt h.row, lt h.cells, h.len, lt h.res⟩

theorem MadeRow.set {w0 w : World} {Rb Cb : Nat} {c : Int} {n : Nat} {cs : List Int} (h : MadeRow w0 w Rb Cb c n cs) (i : Nat) (z : Int) : MadeRow w0 (w.setCell ⟨Cb, i, none⟩ (.int .i64 z)) Rb Cb c n (cs.set i z) := by
  have hg := grown_set w Cb i (.int .i64 z)
  have h1 := h.newC
  have h2 := h.newR
  have lt : ∀ {k : Nat} {o : Obj}, w.heap[k]? = some o → k ≠ Cb → (w.setCell ⟨Cb, i, none⟩ (.int .i64 z)).heap[k]? = some o := fun hk hn => (hg.block _ (Array.getElem?_eq_some_iff.1 hk).1 (by simpa using hn)).trans hk
  refine ⟨grown_own h.grown hg (fun k hk => by cases hk; omega), h.newR, h.newC, h.ne, lt h.row h.ne, ?_, by simp [h.len], lt h.res (by omega)⟩
  show (w.heap.modify Cb _)[Cb]? = _
  rw [Array.getElem?_modify, if_pos rfl, h.cells]
  simp [List.map_set]

theorem MadeRow.cell {w0 w : World} {Rb Cb : Nat} {c : Int} {n : Nat} {cs : List Int} (h : MadeRow w0 w Rb Cb c n cs) {q : Nat} (hq : q < cs.length) : ∃ x, w.cell? ⟨Cb, q, none⟩ = some (.int .i64 x) ∧ w.frozen? ⟨Cb, q, none⟩ = false :=
  ⟨cs[q], by simp [World.cell?, h.cells, hq], by simp [World.frozen?, h.cells]⟩

/-- A row by value: a form's. -/
def RowOfPost (c : Int) (n : Nat) (cs : List Int) (w : World) (e : Ending) (w' : World) : Prop :=
  ∃ Cb, e = .returned (.agg #[.int .i64 c, .slice (some ⟨Cb, 0, none⟩) n n]) ∧ w.heap.size ≤ Cb ∧ w'.heap[Cb]? = some (.cells (cs.map (Value.int .i64)).toArray 3 (0, 0)) ∧ w.grownBy w' none

theorem Try.infoRow2 : (Try.prog.info? 90).map (·.size) = some 2 := by kernel_rfl

theorem made_end {w0 w : World} {Rb Cb : Nat} {c : Int} {n : Nat} {cs : List Int} (h : MadeRow w0 w Rb Cb c n cs) :
    let w' := (w.setCell ⟨w0.heap.size + 1, 0, none⟩ (.int .i64 c)).setCell ⟨w0.heap.size + 1, 1, none⟩ (.slice (some ⟨Cb, 0, none⟩) n n)
    w'.heap[w0.heap.size + 1]? = some (.cells #[.int .i64 c, .slice (some ⟨Cb, 0, none⟩) n n] 90 (0, 0)) ∧ RowOfPost c n cs w0 (.returned (.agg #[.int .i64 c, .slice (some ⟨Cb, 0, none⟩) n n])) w' := by
  have hg : w.grownBy ((w.setCell ⟨w0.heap.size + 1, 0, none⟩ (.int .i64 c)).setCell ⟨w0.heap.size + 1, 1, none⟩ (.slice (some ⟨Cb, 0, none⟩) n n)) (some (w0.heap.size + 1)) := grownBy_trans (grown_set _ _ _ _) (grown_set _ _ _ _)
  have hr := h.res
  have h1 := h.newC
  refine ⟨by simp [World.setCell, Array.getElem?_modify, hr], Cb, rfl, by omega, ?_, grown_own h.grown hg (fun k hk => by cases hk; omega)⟩
  exact (hg.block _ (Array.getElem?_eq_some_iff.1 h.cells).1 (by simp; omega)).trans h.cells

set_option maxRecDepth 100000 in
set_option maxHeartbeats 4000000 in
theorem rowOf_any (c : Int) (ts : List (ByteArray × Int)) (l : List SideD) (tv sv : Value) (w : World) (ht : TermsAt w tv ts) (hs : SidesAt w sv l) (hin : termsIn (namesOf l) ts = true) (hl8 : l.length ≤ 1000) :
    Calls Try.prog 51 #[.agg #[.int .i64 c, tv], sv] w (RowOfPost c l.length (coefsOf l ts) w) := by
  obtain ⟨p, cap, rfl, hl, hc⟩ := ht
  obtain ⟨ps, scap, rfl, ⟨hsl, hscc⟩, hsc⟩ := hs
  have H := Lib.hid hc
  have HN : Hid (SidesAt w (.slice ps l.length scap) l) := ⟨ps, scap, rfl, ⟨hsl, hscc⟩, hsc⟩
  have HIn := Lib.hid hin
  unfold maxLen at hl
  clear hc hsc hin
  have hmk := run_make_ints l.length (by omega)
  go_enter Try.func51, Try.ntmps51
  go_upto_region 1 with fail
  go_cut [5] (fun s5 wx => ∃ Rb Cb : Nat, s5 = .pointer (some ⟨Rb, 0, none⟩) ∧ Hid (MadeRow w wx Rb Cb c l.length (List.replicate l.length 0)) ∧ wx.cell? ⟨w.heap.size, 1, none⟩ = some (.slice p ts.length cap))
  case first =>
    go_region_law (fail)
    all_goals
      go_wp2_with fail
      go_meet
      case rel => first | exact ⟨_, _, rfl, made_start1 _ _ _ _, cell_box _ _ _ _ _ _⟩ | exact ⟨_, _, rfl, made_start2 _ _ _ _, cell_box _ _ _ _ _ _⟩
  case rest =>
    obtain ⟨Rb, Cb, rfl, HM, hbox⟩ := hcut
    go_wp2
    go_loopw [17] (fun i wr => ∃ k : Nat, k ≤ ts.length ∧ i = .int .i64 k ∧ Hid (MadeRow w wr Rb Cb c l.length (coefsOf l (ts.take k)))) (fun i _ => ts.length - (intOf i).toNat)
    case atStart => exact ⟨0, Nat.zero_le _, rfl, HM.out⟩
    case round =>
      obtain ⟨k, hk, rfl, HR⟩ := hrel
      by_cases hlt : k < ts.length
      · have h0 := List.getElem?_eq_getElem hlt
        obtain ⟨b, off, rfl, h3, h4, h5, h6, h7⟩ := (H.out k _ h0).kept HR.out.grown
        have hmem : containsB (namesOf l) (ts[k]).1 = true := List.all_eq_true.1 HIn.out _ (List.getElem_mem hlt)
        obtain ⟨q, hq, hql⟩ := firstI_lt (q := sameName (ts[k]).1) (l := l) (by rw [sameName_any]; exact hmem)
        have HS := Lib.hid (coefs_snoc (l := l) h0)
        have HQ := Lib.hid (show placeN l ts[k] = q by unfold placeN; rw [hq]; simp)
        have HF := Lib.hid hq
        have hr1 : wr.cell? ⟨Rb, 1, none⟩ = some (.slice (some ⟨Cb, 0, none⟩) l.length l.length) := by simp [World.cell?, HR.out.row]
        generalize hn : (ts[k]).1 = n at *
        generalize hz : (ts[k]).2 = z at *
        have hr1a := (World.grownBy_alloc wr (.cells #[.string n, .int .i64 z] 59) none).cell hr1 (by simp)
        have hI : (q : Int) < (l.length : Int) := by omega
        have hI0 : (0 : Int) ≤ (q : Int) := by omega
        have hM2 := Lib.hid (fun W (hg : wr.grownBy W none) => (HR.out.kept hg).cell (q := q) (by rw [coefs_length]; exact hql))
        have hne := HR.out.ne
        have hCl : Cb < wr.heap.size := (Array.getElem?_eq_some_iff.1 HR.out.cells).1
        clear h0 hn hz hmem hq
        go_wp2
        go_region_held3 (fun W => W.cell? ⟨Rb, 1, none⟩ = some (.slice (some ⟨Cb, 0, none⟩) l.length l.length) ∧ W.cell? ⟨wr.heap.size, 0, none⟩ = some (.string n) ∧ W.cell? ⟨wr.heap.size, 1, none⟩ = some (.int .i64 z)) (first | exact ⟨(grown_set w2 Cb q _).cell d1 (by simp; omega), (grown_set w2 Cb q _).cell d2 (by simp; omega), (grown_set w2 Cb q _).cell d3 (by simp; omega)⟩ | go_keep) (first
          | (go_at_call 41; refine (placeOf_any n _ l _ (HN.out.kept (grownBy_trans HR.out.grown (grown_ad _ _ _)))).mono ?_; rintro e w2 ⟨rfl, hg2⟩; rw [HF.out]; have G2 := Lib.hid (grownBy_trans (grown_ad _ _ _) hg2); have d1 := G2.out.cell hr1 (by simp); have d2 := hg2.cell (a := ⟨wr.heap.size, 0, none⟩) (v := .string n) (by simp) (by simp); have d3 := hg2.cell (a := ⟨wr.heap.size, 1, none⟩) (v := .int .i64 z) (by simp) (by simp); obtain ⟨x4, d4, d5⟩ := hM2.out w2 G2.out; clear hg2))
        go_wp2
        go_roundw
        case rel =>
          refine ⟨k + 1, by omega, by go_num, ?_⟩
          have hm := (HR.out.kept G2.out).set q z
          show MadeRow _ _ _ _ _ _ _
          rw [HS.out, HQ.out]
          exact hm
        case measure => simp [intOf]; omega
      · obtain rfl : k = ts.length := by omega
        have hr0 : wr.cell? ⟨Rb, 0, none⟩ = some (.int .i64 c) := by simp [World.cell?, HR.out.row]
        have hr1 : wr.cell? ⟨Rb, 1, none⟩ = some (.slice (some ⟨Cb, 0, none⟩) l.length l.length) := by simp [World.cell?, HR.out.row]
        have hs0 : wr.cell? ⟨w.heap.size + 1, 0, none⟩ = some (.int .i64 0) := by simp [World.cell?, HR.out.res]
        have hs1 : wr.cell? ⟨w.heap.size + 1, 1, none⟩ = some (.slice none 0 0) := by simp [World.cell?, HR.out.res]
        have hsf : ∀ k, wr.frozen? ⟨w.heap.size + 1, k, none⟩ = false := fun k => by simp [World.frozen?, HR.out.res]
        go_wp2
        have hm := HR.out
        rw [List.take_length] at hm
        obtain ⟨f1, f2⟩ := made_end hm
        exact bodyPost_end (results_cell_row rfl _ _ (w.heap.size + 1) _ _ _ _ rfl f1 Try.underlying90 rfl Try.infoRow2) rfl f2

end Go.Proofs.Ytjgddagladmgoaa
