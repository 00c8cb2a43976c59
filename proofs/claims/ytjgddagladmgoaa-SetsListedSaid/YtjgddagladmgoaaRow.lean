/-
 Rows of package affine: their values, whether conditions are met, how many variables they hang on.
-/
import Derived.Test.YtjgddagladmgoaaIsPoint
import Derived.WalkSpells
namespace Go.Proofs.Ytjgddagladmgoaa
open Go.RowKit

theorem grown_ad (w : World) (o : Obj) (r : Option Nat) : w.grownBy (w.alloc o).drew r := grownBy_trans (World.grownBy_alloc w o r) ⟨rfl, rfl, rfl, Nat.le_refl _, fun _ _ _ => rfl⟩
theorem grown_d (w : World) (r : Option Nat) : w.grownBy w.drew r := ⟨rfl, rfl, rfl, Nat.le_refl _, fun _ _ _ => rfl⟩

abbrev RowD := Int × List Int

def RowAt (w : World) (p : Option Addr) (r : RowD) (j : Nat) : Prop :=
  ∃ b off cv, p = some ⟨b, off, none⟩ ∧ w.cell? ⟨b, off + j * 2, none⟩ = some (.int .i64 r.1) ∧ w.cell? ⟨b, off + j * 2 + 1, none⟩ = some cv ∧ IntsAt w cv r.2
theorem RowAt.kept {w w' : World} {p : Option Addr} {r : RowD} {j : Nat} (h : RowAt w p r j) (hg : w.grownBy w' none) : RowAt w' p r j := by
  obtain ⟨b, off, cv, hp, h1, h2, h3⟩ := h
  exact ⟨b, off, cv, hp, hg.cell h1 (by simp), hg.cell h2 (by simp), h3.kept hg⟩

/-- Rows, as they lie in memory. -/
def RowLAt (w : World) (v : Value) (l : List RowD) : Prop := ∃ p cap, v = .slice p l.length cap ∧ l.length ≤ 1000000 ∧ ∀ j r, l[j]? = some r → RowAt w p r j
theorem RowLAt.kept {w w' : World} {v : Value} {l : List RowD} (h : RowLAt w v l) (hg : w.grownBy w' none) : RowLAt w' v l := by
  obtain ⟨p, cap, hv, hl, hc⟩ := h
  exact ⟨p, cap, hv, hl, fun j t hj => (hc j t hj).kept hg⟩

/-- A row within the limits, of so many variables. -/
def goodRow (n : Nat) (r : RowD) : Prop := r.2.length = n ∧ (-1000000 ≤ r.1 ∧ r.1 ≤ 1000000) ∧ ∀ c ∈ r.2, -1000 ≤ c ∧ c ≤ 1000
def near (xs : List Int) : Prop := ∀ x ∈ xs, -1000000 ≤ x ∧ x ≤ 1000000

def dot : List Int → List Int → Int
  | c :: cs, x :: xs => c * x + dot cs xs
  | _, _ => 0
def rowVal (r : RowD) (xs : List Int) : Int := r.1 + dot r.2 xs

theorem dot_nil (cs : List Int) : dot cs [] = 0 := by cases cs <;> rfl
theorem dot_snoc : ∀ (cs xs : List Int) (k : Nat) (c x : Int), cs[k]? = some c → xs[k]? = some x → dot cs (xs.take (k + 1)) = dot cs (xs.take k) + c * x
  | [], _, _, _, _, h, _ => by simp at h
  | _ :: _, [], _, _, _, _, h => by simp at h
  | a :: cs, b :: xs, 0, c, x, h, hx => by
    simp at h hx
    subst h hx
    simp [dot, dot_nil]
  | a :: cs, b :: xs, k + 1, c, x, h, hx => by
    have ih := dot_snoc cs xs k c x (by simpa using h) (by simpa using hx)
    simp only [List.take_succ_cons, dot]
    rw [ih]
    omega
theorem dot_bound : ∀ (cs xs : List Int) (k : Nat), (∀ c ∈ cs, -1000 ≤ c ∧ c ≤ 1000) → near xs → -1000000000 * (k : Int) ≤ dot cs (xs.take k) ∧ dot cs (xs.take k) ≤ 1000000000 * (k : Int)
  | [], xs, k, _, _ => by simp only [dot]; omega
  | _ :: _, [], k, _, _ => by rw [List.take_nil, dot_nil]; omega
  | _ :: _, _ :: _, 0, _, _ => by rw [List.take_zero, dot_nil]; omega
  | a :: cs, b :: xs, k + 1, h, hx => by
    obtain ⟨h1, h2⟩ := dot_bound cs xs k (fun c hc => h c (by simp [hc])) (fun x hx' => hx x (by simp [hx']))
    obtain ⟨h3, h4⟩ := h a (by simp)
    obtain ⟨h5, h6⟩ := hx b (by simp)
    obtain ⟨h7, h8⟩ := prod_bound h3 h4 h5 h6
    simp only [List.take_succ_cons, dot]
    omega

set_option maxRecDepth 100000 in
set_option maxHeartbeats 1000000 in
theorem rowValue_any (n : Nat) (r : RowD) (cv xv : Value) (xs : List Int) (w : World) (hr : goodRow n r) (hn : n ≤ 1000) (hc : IntsAt w cv r.2) (hx : IntsAt w xv xs) (hl : xs.length ≤ n) (hb : near xs) :
    Calls Try.prog 67 #[.agg #[.int .i64 r.1, cv], xv] w (Gives (.int .i64 (rowVal r xs)) w) := by
  obtain ⟨num, cs⟩ := r
  obtain ⟨g1, ⟨g2, g3⟩, g4⟩ := hr
  obtain ⟨p, cap, rfl, hcl, hcc⟩ := hc
  obtain ⟨q, xcap, rfl, hxl, hxc⟩ := hx
  simp only at g1 g2 g3 g4 hcl hcc ⊢
  have HC := Lib.hid hcc
  have HX := Lib.hid hxc
  have HB := Lib.hid (fun k => dot_bound cs xs k g4 hb)
  have HN := Lib.hid g1
  clear hcc hxc g4 hb g1
  go_enter Try.func67, Try.ntmps67
  go_wp2
  go_loopw [5, 12] (fun q i wr => ∃ (k : Nat) (z : Int), k ≤ xs.length ∧ i = .int .i64 k ∧ q = .int .i64 z ∧ Hid (z = num + dot cs (xs.take k)) ∧ Hid ((w.alloc (.cells #[.int .i64 num, .slice p cs.length cap] 90)).grownBy wr none)) (fun _ i _ => xs.length - (intOf i).toNat)
  case atStart => exact ⟨0, num, Nat.zero_le _, rfl, rfl, by show _ = _; rw [List.take_zero, dot_nil]; omega, grownBy_refl _ _⟩
  case round =>
    obtain ⟨k, z, hk, rfl, rfl, HZ, HG⟩ := hrel
    by_cases hlt : k < xs.length
    · have hltc : k < cs.length := by have := HN.out; omega
      have hgw : w.grownBy wr none := grownBy_trans (World.grownBy_alloc _ _ _) HG.out
      have h0 := List.getElem?_eq_getElem hlt
      have h1 := List.getElem?_eq_getElem hltc
      obtain ⟨b, off, rfl, ⟨x1, x2⟩, hx'⟩ := HX.out k _ h0
      obtain ⟨d, doff, rfl, ⟨c1, c2⟩, hc'⟩ := HC.out k _ h1
      have hx'' := hgw.cell hx' (by simp)
      have hc'' := hgw.cell hc' (by simp)
      have hbox := HG.out.cell (a := ⟨w.heap.size, 1, none⟩) (v := .slice (some ⟨d, doff, none⟩) cs.length cap) (by simp) (by simp)
      have HS := Lib.hid (dot_snoc cs xs k _ _ h1 h0)
      obtain ⟨b1, b2⟩ := HB.out k
      obtain ⟨b3, b4⟩ := HB.out (k + 1)
      rw [HS.out] at b3 b4
      have hz := HZ.out
      have z1 : -1000000 - 1000000000 * (k : Int) ≤ z := by omega
      have z2 : z ≤ 1000000 + 1000000000 * (k : Int) := by omega
      generalize xs[k] = x at *
      generalize cs[k] = c at *
      have hk8 : (k : Int) < 1000 := by omega
      have m1 : -2000000000000 ≤ c * x := by omega
      have m2 : c * x ≤ 2000000000000 := by omega
      have hI2 : (k : Int) < (cs.length : Int) := by omega
      clear h0 h1 hx' hc' hz hgw b1 b2 b3 b4
      go_wp2
      go_roundw
      case rel => exact ⟨k + 1, _, by omega, by go_num, rfl, by show _ = _; rw [HS.out, HZ.out]; omega, HG.out⟩
      case measure => simp [intOf]; omega
    · obtain rfl : k = xs.length := by omega
      go_wp2
      go_ret
      exact ⟨ret_i64 (by rw [HZ.out, List.take_length]; rfl), grownBy_trans (World.grownBy_alloc _ _ _) HG.out⟩

def negRow (xs : List Int) (r : RowD) : Bool := decide (rowVal r xs < 0)

set_option maxRecDepth 100000 in
set_option maxHeartbeats 1000000 in
theorem areMet_any (n : Nat) (l : List RowD) (v xv : Value) (xs : List Int) (w : World) (hl : RowLAt w v l) (hr : ∀ r ∈ l, goodRow n r) (hn : n ≤ 1000) (hx : IntsAt w xv xs) (hxl : xs.length ≤ n) (hb : near xs) :
    Calls Try.prog 52 #[v, xv] w (Gives (.bool (!l.any (negRow xs))) w) := by
  obtain ⟨p, cap, rfl, hlen, hc⟩ := hl
  have H := Lib.hid hc
  have HX := Lib.hid hx
  have HR0 := Lib.hid hr
  have HB := Lib.hid hb
  clear hc hx hr hb
  go_enter Try.func52, Try.ntmps52
  go_wp2
  go_loopw [9] (fun i wr => ∃ k : Nat, k ≤ l.length ∧ i = .int .i64 k ∧ Hid ((l.take k).any (negRow xs) = false) ∧ Hid (w.grownBy wr none)) (fun i _ => l.length - (intOf i).toNat)
  case atStart => exact ⟨0, Nat.zero_le _, rfl, rfl, grownBy_refl _ _⟩
  case round =>
    obtain ⟨k, hk, rfl, HR, HG⟩ := hrel
    by_cases hlt : k < l.length
    · have h0 := List.getElem?_eq_getElem hlt
      obtain ⟨b, off, cv, rfl, h1, h2, h3⟩ := (H.out k _ h0).kept HG.out
      obtain ⟨pv, vcap, rfl, hvl, hvc⟩ := h3
      have h3 : IntsAt wr (.slice pv (l[k]).2.length vcap) (l[k]).2 := ⟨pv, vcap, rfl, hvl, hvc⟩
      have HS := Lib.hid (any_snoc (q := negRow xs) h0)
      have HH := Lib.hid (any_hit (q := negRow xs) h0)
      have HV := Lib.hid (fun W (hg : wr.grownBy W none) => rowValue_any n l[k] (.slice pv (l[k]).2.length vcap) xv xs W (HR0.out _ (List.getElem_mem hlt)) hn (h3.kept hg) (HX.out.kept (grownBy_trans HG.out hg)) hxl HB.out)
      have HE := Lib.hid (show negRow xs l[k] = decide (rowVal l[k] xs < 0) from rfl)
      generalize rowVal l[k] xs = z at *
      generalize hc : (l[k]).1 = c at *
      generalize hcl : (l[k]).2.length = vl at *
      clear h0 h3 hc hcl hvl hvc
      go_wp2_with (first | (go_at_call 67; refine (HV.out _ (World.grownBy_alloc _ _ _)).mono ?_; rintro e w' ⟨rfl, hg1⟩; have G1 := Lib.hid hg1; clear hg1))
      · have he : z < 0 := by assumption
        go_ret
        exact ⟨ret_bool (by rw [HH.out (by rw [HE.out]; simpa using he)]; rfl), grownBy_trans HG.out (grownBy_trans (World.grownBy_alloc _ _ _) G1.out)⟩
      · have he : ¬ z < 0 := by omega
        go_roundw
        case rel => exact ⟨k + 1, by omega, by go_num, by show _ = _; rw [HS.out, HR.out, HE.out]; simpa using he, grownBy_trans HG.out (grownBy_trans (World.grownBy_alloc _ _ _) G1.out)⟩
        case measure => simp [intOf]; omega
    · obtain rfl : k = l.length := by omega
      go_wp2
      go_ret
      exact ⟨ret_bool (by have := HR.out; rw [List.take_length] at this; rw [this]; rfl), HG.out⟩

/-- How many of the first variables a row hangs on. -/
def rowLen : List Int → Nat
  | [] => 0
  | c :: cs => if rowLen cs = 0 then (if c = 0 then 0 else 1) else rowLen cs + 1
theorem rowLen_le : ∀ cs : List Int, rowLen cs ≤ cs.length
  | [] => Nat.le_refl _
  | c :: cs => by
    have := rowLen_le cs
    simp only [rowLen, List.length_cons]
    split <;> (try split) <;> omega
theorem rowLen_snoc_zero : ∀ (cs : List Int) (c : Int), c = 0 → rowLen (cs ++ [c]) = rowLen cs
  | [], c, h => by simp [rowLen, h]
  | a :: cs, c, h => by simp only [List.cons_append, rowLen, rowLen_snoc_zero cs c h]
theorem rowLen_snoc : ∀ (cs : List Int) (c : Int), c ≠ 0 → rowLen (cs ++ [c]) = cs.length + 1
  | [], c, h => by simp [rowLen, h]
  | a :: cs, c, h => by simp only [List.cons_append, rowLen, rowLen_snoc cs c h, List.length_cons]; simp
/-- What a row does not hang on does not count. -/
theorem dot_more : ∀ (cs pre more : List Int), rowLen cs ≤ pre.length → dot cs (pre ++ more) = dot cs pre
  | [], _, _, _ => rfl
  | c :: cs, x :: pre, more, h => by
    have h' : rowLen cs ≤ pre.length := by
      simp only [rowLen, List.length_cons] at h
      split at h <;> omega
    simp only [List.cons_append, dot]
    rw [dot_more cs pre more h']
  | c :: cs, [], [], _ => by simp
  | c :: cs, [], x :: more, h => by
    simp only [rowLen, List.length_nil] at h
    split at h
    · split at h
      · rename_i h1 h2
        have ih := dot_more cs [] more (by simp; omega)
        simp only [List.nil_append, dot_nil] at ih
        simp [dot, h2, ih]
      · omega
    · omega

set_option maxRecDepth 100000 in
set_option maxHeartbeats 1000000 in
theorem rowLength_any (num : Int) (cs : List Int) (cv : Value) (w : World) (hc : IntsAt w cv cs) :
    Calls Try.prog 55 #[.agg #[.int .i64 num, cv]] w (Gives (.int .i64 (rowLen cs)) w) := by
  obtain ⟨p, cap, rfl, hcl, hcc⟩ := hc
  have HC := Lib.hid hcc
  clear hcc
  go_enter Try.func55, Try.ntmps55
  go_wp2
  go_loopw [3] (fun i wr => ∃ k : Nat, k ≤ cs.length ∧ i = .int .i64 k ∧ Hid (rowLen (cs.take k) = rowLen cs) ∧ Hid ((w.alloc (.cells #[.int .i64 num, .slice p cs.length cap] 90)).grownBy wr none)) (fun i _ => (intOf i).toNat)
  case atStart => exact ⟨cs.length, Nat.le_refl _, rfl, by show _ = _; rw [List.take_length], grownBy_refl _ _⟩
  case round =>
    obtain ⟨k, hk, rfl, HR, HG⟩ := hrel
    by_cases hk0 : 0 < k
    · obtain ⟨m, rfl⟩ : ∃ m, k = m + 1 := ⟨k - 1, by omega⟩
      have hlt : m < cs.length := by omega
      have h0 := List.getElem?_eq_getElem hlt
      have hgw : w.grownBy wr none := grownBy_trans (World.grownBy_alloc _ _ _) HG.out
      obtain ⟨d, doff, rfl, ⟨c1, c2⟩, hc'⟩ := HC.out m _ h0
      have hc'' := hgw.cell hc' (by simp)
      have hbox := HG.out.cell (a := ⟨w.heap.size, 1, none⟩) (v := .slice (some ⟨d, doff, none⟩) cs.length cap) (by simp) (by simp)
      have HT := Lib.hid (List.take_succ_eq_append_getElem hlt)
      generalize cs[m] = c at *
      have hI : (0 : Int) < ((m + 1 : Nat) : Int) := by omega
      have hI2 : ((m + 1 : Nat) : Int) - 1 < (cs.length : Int) := by omega
      have hI3 : ((m + 1 : Nat) : Int) - 1 = (m : Int) := by omega
      have hI4 : (m : Int) < (cs.length : Int) := by omega
      clear h0 hc' hgw
      go_wp2
      · have he : c = 0 := by have h : (c == 0) = true := (by assumption); simpa using h
        go_roundw
        case rel => exact ⟨m, by omega, rfl, by show _ = _; rw [← HR.out, HT.out, rowLen_snoc_zero _ _ he], HG.out⟩
        case measure => simp [intOf]
      · have he : c ≠ 0 := by have h : (c == 0) = false := (by assumption); simpa using h
        have hv : rowLen cs = m + 1 := by rw [← HR.out, HT.out, rowLen_snoc _ _ he, List.length_take]; omega
        go_ret
        exact ⟨ret_i64 (by rw [hv]), grownBy_trans (World.grownBy_alloc _ _ _) HG.out⟩
    · obtain rfl : k = 0 := by omega
      go_wp2
      go_ret
      exact ⟨ret_i64 (by have := HR.out; rw [List.take_zero] at this; rw [← this]; rfl), grownBy_trans (World.grownBy_alloc _ _ _) HG.out⟩

end Go.Proofs.Ytjgddagladmgoaa
