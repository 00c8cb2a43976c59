/-
 value: what a table gives at a point.
-/
import Derived.Test.YtjgddagladmgoaaPoly
namespace Go.Proofs.Ytjgddagladmgoaa
open Go.RowKit Go.Maps Go.WideMaps

theorem sameKey_strL (a b : ByteArray) : (strL a).sameKey (strL b) = decide (a = b) := by
  by_cases h : a = b
  · subst h
    simp [strL, Lit.sameKey]
  · rw [sameKey_ne (fun e => h (strL_inj e))]
    simp [h]

/-- What the terms that have been met give together. -/
def doneSum (X : ByteArray → Int) (left : Lit → Bool) (ts : List (ByteArray × Int)) : Int := ((ts.filter fun t => !left (strL t.1)).map fun t => t.2 * X t.1).sum
def valueOf (X : ByteArray → Int) (c : Int) (ts : List (ByteArray × Int)) : Int := c + (ts.map fun t => t.2 * X t.1).sum

theorem doneSum_none {X : ByteArray → Int} {left : Lit → Bool} {ts : List (ByteArray × Int)} (h : ∀ t ∈ ts, left (strL t.1) = true) : doneSum X left ts = 0 := by
  unfold doneSum
  rw [List.filter_eq_nil_iff.2 (fun t ht => by simp [h t ht])]
  rfl
theorem doneSum_all {X : ByteArray → Int} {left : Lit → Bool} {ts : List (ByteArray × Int)} (h : ∀ kl, left kl = false) : doneSum X left ts = (ts.map fun t => t.2 * X t.1).sum := by
  unfold doneSum
  rw [List.filter_eq_self.2 (fun t _ => by simp [h])]
theorem doneSum_other {X : ByteArray → Int} {left : Lit → Bool} {x : ByteArray} : ∀ {ts : List (ByteArray × Int)}, (∀ t ∈ ts, t.1 ≠ x) → doneSum X (fun l => left l && !l.sameKey (strL x)) ts = doneSum X left ts := by
  intro ts h
  unfold doneSum
  congr 2
  refine List.filter_congr fun t ht => ?_
  simp [sameKey_strL, h t ht]
theorem doneSum_step {X : ByteArray → Int} {left : Lit → Bool} : ∀ {ts : List (ByteArray × Int)} {u : ByteArray × Int}, ts.Pairwise (fun a b => a.1 ≠ b.1) → u ∈ ts → left (strL u.1) = true →
    doneSum X (fun l => left l && !l.sameKey (strL u.1)) ts = doneSum X left ts + u.2 * X u.1 := by
  intro ts
  induction ts with
  | nil => intro u _ hu; cases hu
  | cons t r ih =>
    intro u hp hu hl
    obtain ⟨h1, h2⟩ := List.pairwise_cons.1 hp
    rcases List.mem_cons.1 hu with rfl | hu
    · have h3 := doneSum_other (X := X) (left := left) (x := u.1) (ts := r) (fun t ht e => h1 t ht e.symm)
      unfold doneSum at h3 ⊢
      simp only [List.filter_cons, hl, sameKey_strL, decide_true, Bool.not_true, Bool.and_false, Bool.not_false, if_true, List.map_cons, List.sum_cons, Bool.false_eq_true, if_false]
      simp only [sameKey_strL] at h3
      rw [h3]
      omega
    · have h3 := ih h2 hu hl
      have hne : t.1 ≠ u.1 := h1 u hu
      unfold doneSum at h3 ⊢
      simp only [List.filter_cons, sameKey_strL, hne, decide_false, Bool.not_false, Bool.and_true] at h3 ⊢
      cases hlt : left (strL t.1)
      · simp only [Bool.not_false, if_true, List.map_cons, List.sum_cons]
        rw [h3]
        omega
      · simp only [Bool.not_true, Bool.false_eq_true, if_false]
        exact h3

theorem sum_bound {l : List Int} (h : ∀ x ∈ l, -1000000000 ≤ x ∧ x ≤ 1000000000) : -1000000000 * (l.length : Int) ≤ l.sum ∧ l.sum ≤ 1000000000 * (l.length : Int) := by
  induction l with
  | nil => simp
  | cons a r ih =>
    obtain ⟨h1, h2⟩ := h a (by simp)
    obtain ⟨h3, h4⟩ := ih (fun x hx => h x (by simp [hx]))
    simp only [List.sum_cons, List.length_cons, Int.natCast_succ]
    constructor <;> omega
theorem prod_bound {a b : Int} (h1 : -1000 ≤ a) (h2 : a ≤ 1000) (h3 : -1000000 ≤ b) (h4 : b ≤ 1000000) : -1000000000 ≤ a * b ∧ a * b ≤ 1000000000 := by
  constructor
  · rcases Int.le_total 0 a with ha | ha
    · have := Int.mul_le_mul_of_nonneg_left h3 ha
      have := Int.mul_le_mul_of_nonpos_right h2 (show (-1000000 : Int) ≤ 0 by omega)
      omega
    · have := Int.mul_le_mul_of_nonpos_left ha h4
      have := Int.mul_le_mul_of_nonneg_right h1 (show (0 : Int) ≤ 1000000 by omega)
      omega
  · rcases Int.le_total 0 a with ha | ha
    · have := Int.mul_le_mul_of_nonneg_left h4 ha
      have := Int.mul_le_mul_of_nonneg_right h2 (show (0 : Int) ≤ 1000000 by omega)
      omega
    · have := Int.mul_le_mul_of_nonpos_left ha h3
      have := Int.mul_le_mul_of_nonpos_right h1 (show (-1000000 : Int) ≤ 0 by omega)
      omega
theorem doneSum_bound {X : ByteArray → Int} {left : Lit → Bool} {ts : List (ByteArray × Int)} (h12 : ts.length ≤ 12) (ht : ∀ t ∈ ts, -1000 ≤ t.2 ∧ t.2 ≤ 1000) (hX : ∀ s, -1000000 ≤ X s ∧ X s ≤ 1000000) :
    -12000000000 ≤ doneSum X left ts ∧ doneSum X left ts ≤ 12000000000 := by
  have hb := sum_bound (l := (ts.filter fun t => !left (strL t.1)).map fun t => t.2 * X t.1) (by
    intro x hx
    obtain ⟨t, ht', rfl⟩ := List.mem_map.1 hx
    have := ht t (List.mem_filter.1 ht').1
    have := hX t.1
    exact prod_bound (by omega) (by omega) (by omega) (by omega))
  have hl : ((ts.filter fun t => !left (strL t.1)).map fun t => t.2 * X t.1).length ≤ 12 := by
    rw [List.length_map]
    exact Nat.le_trans (List.length_filter_le _ _) h12
  unfold doneSum
  omega

theorem keyOf_string_inv {key : Value} {kl : Lit} (h : keyOf Try.prog 9 key = some kl) : ∃ x : ByteArray, key = .string x ∧ kl = strL x ∧ x.size ≤ maxLen := by
  cases key <;> simp [keyOf, Try.underlying9, mapKey] at h
  obtain ⟨h1, rfl⟩ := h
  exact ⟨_, rfl, rfl, h1⟩

/-- A step of a loop over a map from strings to ints. -/
theorem wpList_next_si (w : World) {ops : Array Oper} {rest : List Oper} {o : Oper} {a : Act} {Q : Exit → Act → World → Prop} (hg : o.guard = none) (it : Operand) (hop : o.op = Op.next it false)
    (b r n : Nat) (D : Table) (left : Lit → Bool) (cnt : Nat) (hit : a.eval it = .pointer (some ⟨r, 0, none⟩)) (h : w.ranges Try.prog 9 (plainElem Try.prog 3) b r n D left cnt)
    (hDone : cnt = 0 → (∀ kl, left kl = false) → wpList Try.prog ops Q rest (a.put o.dst (.tuple #[.bool false])) w)
    (hMore : ∀ (x : ByteArray) (c : Int) (w' : World) (cnt' : Nat), x.size ≤ maxLen → left (strL x) = true → (∀ zd, D.atKey (strL x) zd = lit64 c) → w'.ranges Try.prog 9 (plainElem Try.prog 3) b r n D (fun z => left z && !z.sameKey (strL x)) cnt' → cnt' < cnt →
      w.grownBy w' (some r) → (Instr.entry (.pointer (some ⟨r, 0, none⟩))).run Try.prog w' = .ok (.tuple #[.string x, .int .i64 c]) w' → wpList Try.prog ops Q rest (a.put o.dst (.tuple #[.bool true, .string x, .int .i64 c])) w') :
    wpList Try.prog ops Q (o :: rest) a w :=
  wpList_next_ranges w hg it hop 9 Try.lawStr (plainElem Try.prog 3) Value.string (Value.int .i64) (fun key kl hkey => by obtain ⟨x, rfl, _⟩ := keyOf_string_inv hkey; exact ⟨x, rfl⟩) (fun v y hv => by obtain ⟨c, rfl, _⟩ := plainElem_int_inv Try.underlying3 hv; exact ⟨c, rfl⟩)
    b r n D left cnt hit h hDone (fun x c kl y w' cnt' hkey hlk hv hat hrg hlt hgr _ hen => by
      obtain ⟨x', ex, rfl, hwx⟩ := keyOf_string_inv hkey
      cases ex
      obtain ⟨c', ec, rfl, hwc⟩ := plainElem_int_inv Try.underlying3 hv
      cases ec
      exact hMore x c w' cnt' hwx hlk hat hrg hlt hgr hen)

/-- The values of variables, as a table. -/
def VarsD (D : Table) (X : ByteArray → Int) (ts : List (ByteArray × Int)) : Prop := ∀ t ∈ ts, D.atKey (strL t.1) (lit64 0) = lit64 (X t.1)

theorem name_not_isEmpty {s : ByteArray} (h : nameB s = true) : s.toList.isEmpty = false := by
  cases hl : s.toList with
  | nil => exact absurd (bytes_ext (a := s) (b := ByteArray.empty) (by rw [hl, ByteArray.toList_eq]; rfl)) (name_ne_empty h)
  | cons _ _ => rfl

def GivesDrawn (v : Value) (w : World) (e : Ending) (w' : World) : Prop := e = .returned v ∧ w.grownBy w' none

set_option maxRecDepth 100000 in
set_option maxHeartbeats 1000000 in
theorem value_any (c : Int) (ts : List (ByteArray × Int)) (X : ByteArray → Int) (D Dx : Table) (Bp np Bx nx : Nat) (w : World) (hgood : formErr c ts = 0) (hP : MapAt w Bp np D) (hD : PolyD D c ts)
    (hV : MapAt w Bx nx Dx) (hX : VarsD Dx X ts) (hXb : ∀ s, -1000000 ≤ X s ∧ X s ≤ 1000000) :
    Calls Try.prog 60 #[.map (some Bp), .map (some Bx)] w (GivesDrawn (.int .i64 (valueOf X c ts)) w) := by
  obtain ⟨⟨hc1, hc2⟩, h12, hts, hpw⟩ := form_good hgood
  have HP := Lib.hid hP
  have HD := Lib.hid hD
  have HV := Lib.hid hV
  have HX := Lib.hid hX
  have HB := Lib.hid hXb
  have HT := Lib.hid hts
  have HW := Lib.hid hpw
  have HS := Lib.hid (fun left => doneSum_bound (left := left) h12 (fun t ht => (hts t ht).2) hXb)
  have HC := Lib.hid (hD.2.1 (lit64 0))
  have hlt := World.ownsMap.lt hP
  have hlt' := World.ownsMap.lt hV
  clear hP hD hV hX hXb hts hpw hgood
  have hkey := key_str (s := ByteArray.empty) (Nat.zero_le _)
  go_enter Try.func60, Try.ntmps60
  go_wp2_with (first
    | (at_lookup; refine wpList_lookup_own_int _ rfl _ _ 96 rfl 9 3 .i64 Try.lawStr Try.underlying96 Try.underlying3 (Try.zeroInt _) Bp np D rfl HP.out _ _ rfl hkey ?_; intro c' hat hwc; obtain rfl : c = c' := (by have := hat.symm.trans HC.out; simpa [lit64] using this.symm); clear hat hwc)
    | (at_range; refine wpList_range_own _ rfl _ 96 rfl 9 3 Try.lawStr Try.underlying96 _ Bp np D rfl HP.out ?_; intro w0 hrg0 hg0 hs0; have R0 := Lib.hid hrg0; have G0 := Lib.hid hg0; clear hrg0 hg0 hs0))
  go_frame
  go_loopw [5] (fun out wr => ∃ (left : Lit → Bool) (cnt : Nat), out = .int .i64 (c + doneSum X left ts) ∧ Hid (wr.ranges Try.prog 9 (plainElem Try.prog 3) Bp w.heap.size np D left cnt) ∧
      Hid (∀ kl, left kl = true → has D kl = true) ∧ Hid (w.grownBy wr none)) (fun _ wr => wr.rangeLeft Bp w.heap.size)
  case atStart => exact ⟨_, _, by rw [doneSum_none (fun t ht => has_true_of_atKey (HD.out.2.2.1 t ht))]; simp, R0.out, fun _ h => h, G0.out⟩
  case round =>
    obtain ⟨left, cnt, rfl, HR, HL, HG⟩ := hrel
    obtain ⟨hq1, hq2⟩ := HS.out left
    have Hq := Lib.hid (show doneSum X left ts = doneSum X left ts from rfl)
    generalize hq : doneSum X left ts = q at *
    have HQ := Lib.hid hq
    clear hq
    go_wp2_with (first
      | (at_next; refine wpList_next_si _ rfl _ rfl Bp w.heap.size np D left cnt rfl HR.out ?_ ?_))
    · intro _ hl0
      have HZ := Lib.hid hl0
      clear hl0
      go_wp2
      go_ret
      exact ⟨ret_i64 (by rw [← HQ.out, doneSum_all HZ.out]; rfl), HG.out⟩
    · intro x z w1 cnt1 hsz hlx hat hrg1 hlt1 hg1 hen
      have HG1 : Hid (w.grownBy w1 none) := grown_own HG.out hg1 (fun i hi => by cases hi; omega)
      have HLx := Lib.hid hlx
      have HR1 := Lib.hid hrg1
      have Hlt := Lib.hid hlt1
      have HL1 : Hid (∀ kl, (left kl && !kl.sameKey (strL x)) = true → has D kl = true) := fun kl h => HL.out kl (by simp only [Bool.and_eq_true] at h; exact h.1)
      have hkeyx := key_str hsz
      rcases HD.out.2.2.2 _ (HL.out _ hlx) with e | ⟨t, ht, e⟩
      · obtain rfl := strL_inj e
        have HN := Lib.hid (doneSum_other (X := X) (left := left) (x := ByteArray.empty) (ts := ts) (fun t ht => name_ne_empty (HT.out t ht).1))
        clear hat hrg1 hlt1 hg1 hlx e
        go_wp2
        go_roundw
        case rel => exact ⟨_, cnt1, by rw [HN.out, HQ.out], HR1.out, HL1.out, HG1.out⟩
        case measure => rw [World.ranges.left_eq HR1.out, World.ranges.left_eq HR.out]; exact Hlt.out
      · obtain rfl := strL_inj e
        have hz : z = t.2 := by have := (hat (lit64 0)).symm.trans (HD.out.2.2.1 t ht (lit64 0)); simpa [lit64] using this
        have HN := Lib.hid (doneSum_step (X := X) (left := left) HW.out ht hlx)
        have HXt := Lib.hid (HX.out t ht)
        obtain ⟨b1, b2⟩ := (HT.out t ht).2
        obtain ⟨b3, b4⟩ := HB.out t.1
        obtain ⟨b5, b6⟩ := prod_bound b1 b2 b3 b4
        rw [← hz] at b1 b2 b5 b6 HN
        have hE := name_not_isEmpty (HT.out t ht).1
        clear hat hrg1 hlt1 hg1 hlx e hz
        go_wp2_with (first
          | (at_lookup; refine wpList_lookup_own_int _ rfl _ _ 94 rfl 9 3 .i64 Try.lawStr Try.underlying94 Try.underlying3 (Try.zeroInt _) Bx nx Dx rfl (World.ownsMap.kept HV.out HG1.out (by simp)) _ _ rfl hkeyx ?_; intro c' hat hwc; obtain rfl : X t.1 = c' := (by have := hat.symm.trans HXt.out; simpa [lit64] using this.symm); clear hat hwc))
        go_roundw
        case rel => exact ⟨_, cnt1, by rw [HN.out, HQ.out, Int.add_assoc], HR1.out, HL1.out, HG1.out⟩
        case measure => rw [World.ranges.left_eq HR1.out, World.ranges.left_eq HR.out]; exact Hlt.out

end Go.Proofs.Ytjgddagladmgoaa
