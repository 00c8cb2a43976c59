/-
 Maps from strings to ints, as tables. polyOf: a form as a table; value: what it gives at a point. value: what a table gives at a point. isPoint: whether numbers are a point of a set. isPoint, HasIn: whether numbers are a point of a set. slices.Clone of a list of numbers. Sides in package affine: a variable's place, empty boxes, large ones. The state of PointsIn's recursion: where the numbers, the points so far and the closure lie. PointsIn's recursion: its end, and its step. PointsIn's recursion: its step. CheckSet of package affine. PointsIn: all points of a set, in order. Rows of package affine: their values, whether conditions are met, how many variables they hang on. rowOf: a form as a row. CheckSet.
-/
import Derived.Maps.Own
import Derived.Maps.OwnOps
import Derived.Maps.Views
import Derived.Maps.RangeWalk
import Derived.Deep.RegionHeld3
import Derived.Deep.DrawnRows
import Derived.WalkSpells
import Derived.Maps.AppendAt
import Derived.Deep.AppendLies
import Derived.Deep.RegionLaw
import Derived.Deep.LoopGhost
import Derived.Laws.EntriesVeiled
import Derived.Deep.DeepCutAuto
import Derived.Test.YtblpknkgjkbacaaGreatDoorQ04
namespace Go.Proofs.YtblpknkgjkbacaaGreatDoor
set_option linter.unusedVariables false
open Go.RowKit Go.Maps
/-- A composite literal's entry goes in as a store does. -/
theorem wpList_insert_own {H : Type} {P : Program} (w : World) {ops : Array Oper} {rest : List Oper} {o : Oper} {a : Act} {Q : Exit → Act → World → Prop}
    (hg : o.guard = none) (m x v : Operand) (t : TypeId) (hop : o.op = Op.insert t m x v)
    (k e : TypeId) (K : Keyed P k) (ht : P.underlying t = some (.map k e)) (R : Value → Option (DataW H × List MemPlace)) (b n : Nat) (D : DataW H)
    (hm : a.eval m = .map (some b)) (hown : w.ownsMap P k R b n D) (hn : n < maxLen) (key val : Value) (kl : Lit) (hx : a.eval x = key) (hv : a.eval v = val) (hkey : keyOf P k key = some kl)
    (d : DataW H) (ps : List MemPlace) (hval : R val = some (d, ps))
    (hK : ∀ w', w'.ownsMap P k R b (n + 1) (D.put kl d) → w.grownBy w' (some b) → wpList P ops Q rest (a.put o.dst undef) w') :
    wpList P ops Q (o :: rest) a w := by
  refine wpList_plain hg fun K' hK' => ?_
  obtain ⟨w', hrun, r1, r2⟩ := hown.update K ht hn hkey hval
  unfold Oper.wp
  simp [execOp, hop, hm, hx, hv, hrun, Result.andThen]
  exact hK' _ _ (hK w' r1 r2)
theorem Tryz.lawStr : Keyed Tryz.prog 9 := string_keyed Tryz.underlying9
theorem Tryz.zeroInt (w : World) : (zeroValue 3).run Tryz.prog w = .ok (.int .i64 0) w := by kernel_rfl
abbrev Table := DataW Unit
def strL (s : ByteArray) : Lit := .string s.data.toList
theorem strL_inj {a b : ByteArray} (h : strL a = strL b) : a = b := by
  simp only [strL, Lit.string.injEq] at h
  exact bytes_ext (by rw [ByteArray.toList_eq, ByteArray.toList_eq, h])
theorem strL_key (s : ByteArray) : WideAt.IsKeyLit (strL s) := by
  simp [strL, WideAt.IsKeyLit]
/-- A map from strings to ints lies in block B, and reads as D. -/
def MapAt (w : World) (B n : Nat) (D : Table) : Prop := w.ownsMap Tryz.prog 9 (plainElem Tryz.prog 3) B n D
def lit64 (z : Int) : Table := .lit (.int .i64 z)
/-- A table that has the constant and the coefficients of a form, and nothing else. -/
def PolyD (D : Table) (c : Int) (l : List (ByteArray × Int)) : Prop :=
  IsMap D ∧ (∀ zd, D.atKey (strL ByteArray.empty) zd = lit64 c) ∧ (∀ t ∈ l, ∀ zd, D.atKey (strL t.1) zd = lit64 t.2) ∧ (∀ kl, has D kl = true → kl = strL ByteArray.empty ∨ ∃ t ∈ l, kl = strL t.1)
theorem polyD_start (c : Int) : PolyD ((.map [] : Table).put (strL ByteArray.empty) (lit64 c)) c [] := by
  refine ⟨isMap_empty.put _ _, fun zd => atKey_put_same isMap_empty (strL_key _) _ _, fun t ht => (by cases ht), fun kl h => ?_⟩
  by_cases e : kl = strL ByteArray.empty
  · exact .inl e
  · rw [has_put_other e] at h
    simp [has_eq] at h
theorem polyD_step {D : Table} {c z : Int} {n : ByteArray} {l : List (ByteArray × Int)} (h : PolyD D c l) (hn : n ≠ ByteArray.empty) (hl : ∀ t ∈ l, t.1 ≠ n) : PolyD (D.put (strL n) (lit64 z)) c (l ++ [(n, z)]) := by
  obtain ⟨h1, h2, h3, h4⟩ := h
  refine ⟨h1.put _ _, fun zd => ?_, fun t ht zd => ?_, fun kl hk => ?_⟩
  · rw [atKey_put_other (fun e => hn (strL_inj e).symm)]
    exact h2 zd
  · rcases List.mem_append.1 ht with ht | ht
    · rw [atKey_put_other (fun e => hl t ht (strL_inj e))]
      exact h3 t ht zd
    · obtain rfl := List.mem_singleton.1 ht
      exact atKey_put_same h1 (strL_key _) _ _
  · by_cases e : kl = strL n
    · exact .inr ⟨(n, z), by simp, e⟩
    · rw [has_put_other e] at hk
      rcases h4 kl hk with h | ⟨t, ht, h⟩
      · exact .inl h
      · exact .inr ⟨t, by simp [ht], h⟩
theorem polyD_fresh {D : Table} {c : Int} {n : ByteArray} {l : List (ByteArray × Int)} (h : PolyD D c l) (hn : n ≠ ByteArray.empty) (hl : ∀ t ∈ l, t.1 ≠ n) (zd : Table) : D.atKey (strL n) zd = zd := by
  refine atKey_of_not_has ?_ zd
  rw [Bool.eq_false_iff]
  intro hh
  rcases h.2.2.2 _ hh with e | ⟨t, ht, e⟩
  · exact hn (strL_inj e)
  · exact hl t ht (strL_inj e).symm
end Go.Proofs.YtblpknkgjkbacaaGreatDoor
namespace Go.Proofs.YtblpknkgjkbacaaGreatDoor
open Go.RowKit Go.Maps Go.WideMaps
/-- A new map that reads as a form. -/
def PolyMap (c : Int) (ts : List (ByteArray × Int)) (w : World) (e : Ending) (w' : World) : Prop :=
  ∃ (D : Table) (B n : Nat), e = .returned (.map (some B)) ∧ w.heap.size ≤ B ∧ MapAt w' B n D ∧ n ≤ 20 ∧ PolyD D c ts ∧ w.grownBy w' none
theorem lt_maxLen (n : Nat) (h : n ≤ 1000) : n < maxLen := by unfold maxLen; omega
theorem key_str {s : ByteArray} (hs : s.size ≤ maxLen) : keyOf Tryz.prog 9 (.string s) = some (strL s) := keyOf_string_mk Tryz.underlying9 hs
theorem wf64 {c : Int} (h1 : -9223372036854775808 ≤ c) (h2 : c ≤ 9223372036854775807) : (Lit.int .i64 c).wf = true := by
  have h := wrap64_wf c
  rwa [show wrap64 c = c by unfold wrap64; omega] at h
set_option maxRecDepth 100000 in
set_option maxHeartbeats 1000000 in
theorem polyOf_any (c : Int) (ts : List (ByteArray × Int)) (tv : Value) (w : World) (ht : TermsAt w tv ts) (hgood : formErr c ts = 0) :
    Calls Tryz.prog 38 #[.agg #[.int .i64 c, tv]] w (PolyMap c ts w) := by
  obtain ⟨p, cap, rfl, hl, hc⟩ := ht
  obtain ⟨⟨hc1, hc2⟩, h12, hts, hpw⟩ := form_good hgood
  have H := Lib.hid hc
  have HT := Lib.hid hts
  have HP := Lib.hid hpw
  clear hc hts hpw hgood
  have hmm := @run_makeMap Tryz.prog
  go_enter Tryz.func38, Tryz.ntmps38
  go_wp2_with (first | (refine wpList_insert_own _ rfl _ _ _ 78 rfl 9 3 Tryz.lawStr Tryz.underlying78 (plainElem (H := Unit) Tryz.prog 3) (w.heap.size + 1) 0 (.map []) rfl ?_ (lt_maxLen 0 (Nat.zero_le _)) _ _ _ rfl rfl (key_str (Nat.zero_le _)) _ [] (plainElem_int Tryz.underlying3 ?_) ?_))
  · have h := World.ownsMap_made (H := Unit) (w.alloc (.cells #[.int .i64 c, .slice p ts.length cap] 28)) Tryz.prog 9 (plainElem Tryz.prog 3)
    rw [show (w.alloc (.cells #[.int .i64 c, .slice p ts.length cap] 28)).heap.size = w.heap.size + 1 by simp] at h
    exact h
  · exact wf64 (by omega) (by omega)
  intro w1 hown1 hg1
  have HO1 : Hid (MapAt w1 (w.heap.size + 1) 1 _) := hown1
  have HG1 : Hid (w.grownBy w1 none) := grown_own (grownBy_trans (World.grownBy_alloc _ _ _) (World.grownBy_alloc _ _ _)) hg1 (fun i hi => by cases hi; omega)
  have hb1 : w1.cell? ⟨w.heap.size, 1, none⟩ = some (.slice p ts.length cap) := hg1.cell (by simp) (by simp)
  clear hown1 hg1
  go_wp2
  go_loopw [13] (fun i wr => ∃ (k : Nat) (D : Table), k ≤ ts.length ∧ i = .int .i64 k ∧ Hid (MapAt wr (w.heap.size + 1) (k + 1) D) ∧ Hid (PolyD D c (ts.take k)) ∧ Hid (w.grownBy wr none)) (fun i _ => ts.length - (intOf i).toNat)
  case atStart => exact ⟨0, _, Nat.zero_le _, rfl, HO1, polyD_start c, HG1⟩
  case round =>
    obtain ⟨k, D, hk, rfl, HM, HD, HG⟩ := hrel
    by_cases hlt : k < ts.length
    · have h0 := List.getElem?_eq_getElem hlt
      obtain ⟨b, off, rfl, h3, h4, h5, h6, h7⟩ := (H.out k _ h0).kept HG.out
      obtain ⟨g1, g2, g3⟩ := HT.out _ (List.getElem_mem hlt)
      have hne := name_ne_empty g1
      have hfr : ∀ t ∈ ts.take k, t.1 ≠ (ts[k]).1 := by
        intro t ht e
        obtain ⟨j, hj, rfl⟩ := List.getElem_of_mem ht
        simp at hj
        rw [List.getElem_take] at e
        exact (List.pairwise_iff_getElem.1 HP.out) j k (by omega) hlt (by omega) e
      have hfresh := polyD_fresh HD.out hne hfr (lit64 0)
      have HS : Hid (∀ z', z' = (ts[k]).2 → PolyD (D.put (strL (ts[k]).1) (lit64 z')) c (ts.take (k + 1))) := fun z' hz' => by
        have := polyD_step (z := (ts[k]).2) HD.out hne hfr
        rw [hz', List.take_succ_eq_append_getElem hlt]
        exact this
      generalize hn : (ts[k]).1 = n at *
      generalize hz : (ts[k]).2 = z at *
      have HF := Lib.hid hfresh
      have hkey := key_str h3
      clear h0 hn hz hne hfr hfresh g1
      go_wp2_with (first
        | (at_lookup; refine wpList_lookup_own_int _ rfl _ _ 78 rfl 9 3 .i64 Tryz.lawStr Tryz.underlying78 Tryz.underlying3 (Tryz.zeroInt _) (w.heap.size + 1) (k + 1) D rfl (World.ownsMap.alloc HM.out _) _ _ rfl hkey ?_; intro c' hat hwc; obtain rfl : c' = 0 := (by have := hat.symm.trans HF.out; simpa [lit64] using this); clear hat hwc)
        | (at_mapUpdate; refine wpList_mapUpdate_own _ rfl _ _ _ 78 rfl 9 3 Tryz.lawStr Tryz.underlying78 _ (w.heap.size + 1) (k + 1) D rfl (World.ownsMap.alloc HM.out _) (lt_maxLen _ (by omega)) _ _ _ rfl rfl hkey _ [] (plainElem_int Tryz.underlying3 (wf64 (by omega) (by omega))) ?_; intro w2 hown2 hg2; have HO2 := Lib.hid hown2; have HG2 := Lib.hid hg2; clear hown2 hg2))
      go_roundw
      case rel => exact ⟨k + 1, _, by omega, by go_num, HO2.out, HS.out _ (by omega), grown_own (grownBy_trans HG.out (World.grownBy_alloc _ _ _)) HG2.out (fun i hi => by cases hi; omega)⟩
      case measure => simp [intOf]; omega
    · obtain rfl : k = ts.length := by omega
      go_wp2
      go_ret
      exact ⟨D, _, _, rfl, by omega, HM.out, by omega, by have := HD.out; rwa [List.take_length] at this, HG.out⟩
end Go.Proofs.YtblpknkgjkbacaaGreatDoor
namespace Go.Proofs.YtblpknkgjkbacaaGreatDoor
open Go.RowKit Go.Maps Go.WideMaps
theorem sameKey_strL (a b : ByteArray) : (strL a).sameKey (strL b) = decide (a = b) := by
  by_cases h : a = b
  · subst h
    simp [strL, Lit.sameKey]
  · rw [sameKey_ne (fun e => h (strL_inj e))]
    simp [h]
/-- What the terms that have been met give together. -/
def doneSum (X : ByteArray → Int) (left : Lit → Bool) (ts : List (ByteArray × Int)) : Int := ((ts.filter fun t => !left (strL t.1)).map fun t => t.2 * X t.1).sum
def valueOf (X : ByteArray → Int) (c : Int) (ts : List (ByteArray × Int)) : Int := c + (ts.map fun t => t.2 * X t.1).sum
theorem doneSum_none {X : ByteArray → Int} {left : Lit → Bool} {ts : List (ByteArray × Int)} (h : ∀ t ∈ ts, left (strL t.1) = true) : doneSum X left ts = 0 := by
  unfold doneSum
  rw [List.filter_eq_nil_iff.2 (fun t ht => by simp [h t ht])]
  rfl
theorem doneSum_all {X : ByteArray → Int} {left : Lit → Bool} {ts : List (ByteArray × Int)} (h : ∀ kl, left kl = false) : doneSum X left ts = (ts.map fun t => t.2 * X t.1).sum := by
  unfold doneSum
  rw [List.filter_eq_self.2 (fun t _ => by simp [h])]
theorem doneSum_other {X : ByteArray → Int} {left : Lit → Bool} {x : ByteArray} : ∀ {ts : List (ByteArray × Int)}, (∀ t ∈ ts, t.1 ≠ x) → doneSum X (fun l => left l && !l.sameKey (strL x)) ts = doneSum X left ts := by
  intro ts h
  unfold doneSum
  congr 2
  refine List.filter_congr fun t ht => ?_
  simp [sameKey_strL, h t ht]
theorem doneSum_step {X : ByteArray → Int} {left : Lit → Bool} : ∀ {ts : List (ByteArray × Int)} {u : ByteArray × Int}, ts.Pairwise (fun a b => a.1 ≠ b.1) → u ∈ ts → left (strL u.1) = true →
    doneSum X (fun l => left l && !l.sameKey (strL u.1)) ts = doneSum X left ts + u.2 * X u.1 := by
  intro ts
  induction ts with
  | nil => intro u _ hu; cases hu
  | cons t r ih =>
    intro u hp hu hl
    obtain ⟨h1, h2⟩ := List.pairwise_cons.1 hp
    rcases List.mem_cons.1 hu with rfl | hu
    · have h3 := doneSum_other (X := X) (left := left) (x := u.1) (ts := r) (fun t ht e => h1 t ht e.symm)
      unfold doneSum at h3 ⊢
      simp only [List.filter_cons, hl, sameKey_strL, decide_true, Bool.not_true, Bool.and_false, Bool.not_false, if_true, List.map_cons, List.sum_cons, Bool.false_eq_true, if_false]
      simp only [sameKey_strL] at h3
      rw [h3]
      omega
    · have h3 := ih h2 hu hl
      have hne : t.1 ≠ u.1 := h1 u hu
      unfold doneSum at h3 ⊢
      simp only [List.filter_cons, sameKey_strL, hne, decide_false, Bool.not_false, Bool.and_true] at h3 ⊢
      cases hlt : left (strL t.1)
      · simp only [Bool.not_false, if_true, List.map_cons, List.sum_cons]
        rw [h3]
        omega
      · simp only [Bool.not_true, Bool.false_eq_true, if_false]
        exact h3
theorem sum_bound {l : List Int} (h : ∀ x ∈ l, -1000000000 ≤ x ∧ x ≤ 1000000000) : -1000000000 * (l.length : Int) ≤ l.sum ∧ l.sum ≤ 1000000000 * (l.length : Int) := by
  induction l with
  | nil => simp
  | cons a r ih =>
    obtain ⟨h1, h2⟩ := h a (by simp)
    obtain ⟨h3, h4⟩ := ih (fun x hx => h x (by simp [hx]))
    simp only [List.sum_cons, List.length_cons, Int.natCast_succ]
    constructor <;> omega
theorem prod_bound {a b : Int} (h1 : -1000 ≤ a) (h2 : a ≤ 1000) (h3 : -1000000 ≤ b) (h4 : b ≤ 1000000) : -1000000000 ≤ a * b ∧ a * b ≤ 1000000000 := by
  constructor
  · rcases Int.le_total 0 a with ha | ha
    · have := Int.mul_le_mul_of_nonneg_left h3 ha
      have := Int.mul_le_mul_of_nonpos_right h2 (show (-1000000 : Int) ≤ 0 by omega)
      omega
    · have := Int.mul_le_mul_of_nonpos_left ha h4
      have := Int.mul_le_mul_of_nonneg_right h1 (show (0 : Int) ≤ 1000000 by omega)
      omega
  · rcases Int.le_total 0 a with ha | ha
    · have := Int.mul_le_mul_of_nonneg_left h4 ha
      have := Int.mul_le_mul_of_nonneg_right h2 (show (0 : Int) ≤ 1000000 by omega)
      omega
    · have := Int.mul_le_mul_of_nonpos_left ha h3
      have := Int.mul_le_mul_of_nonpos_right h1 (show (-1000000 : Int) ≤ 0 by omega)
      omega
theorem doneSum_bound {X : ByteArray → Int} {left : Lit → Bool} {ts : List (ByteArray × Int)} (h12 : ts.length ≤ 12) (ht : ∀ t ∈ ts, -1000 ≤ t.2 ∧ t.2 ≤ 1000) (hX : ∀ s, -1000000 ≤ X s ∧ X s ≤ 1000000) :
    -12000000000 ≤ doneSum X left ts ∧ doneSum X left ts ≤ 12000000000 := by
  have hb := sum_bound (l := (ts.filter fun t => !left (strL t.1)).map fun t => t.2 * X t.1) (by
    intro x hx
    obtain ⟨t, ht', rfl⟩ := List.mem_map.1 hx
    have := ht t (List.mem_filter.1 ht').1
    have := hX t.1
    exact prod_bound (by omega) (by omega) (by omega) (by omega))
  have hl : ((ts.filter fun t => !left (strL t.1)).map fun t => t.2 * X t.1).length ≤ 12 := by
    rw [List.length_map]
    exact Nat.le_trans (List.length_filter_le _ _) h12
  unfold doneSum
  omega
theorem keyOf_string_inv {key : Value} {kl : Lit} (h : keyOf Tryz.prog 9 key = some kl) : ∃ x : ByteArray, key = .string x ∧ kl = strL x ∧ x.size ≤ maxLen := by
  cases key <;> simp [keyOf, Tryz.underlying9, mapKey] at h
  obtain ⟨h1, rfl⟩ := h
  exact ⟨_, rfl, rfl, h1⟩
/-- A step of a loop over a map from strings to ints. -/
theorem wpList_next_si (w : World) {ops : Array Oper} {rest : List Oper} {o : Oper} {a : Act} {Q : Exit → Act → World → Prop} (hg : o.guard = none) (it : Operand) (hop : o.op = Op.next it false)
    (b r n : Nat) (D : Table) (left : Lit → Bool) (cnt : Nat) (hit : a.eval it = .pointer (some ⟨r, 0, none⟩)) (h : w.ranges Tryz.prog 9 (plainElem Tryz.prog 3) b r n D left cnt)
    (hDone : cnt = 0 → (∀ kl, left kl = false) → wpList Tryz.prog ops Q rest (a.put o.dst (.tuple #[.bool false])) w)
    (hMore : ∀ (x : ByteArray) (c : Int) (w' : World) (cnt' : Nat), x.size ≤ maxLen → left (strL x) = true → (∀ zd, D.atKey (strL x) zd = lit64 c) → w'.ranges Tryz.prog 9 (plainElem Tryz.prog 3) b r n D (fun z => left z && !z.sameKey (strL x)) cnt' → cnt' < cnt →
      w.grownBy w' (some r) → (Instr.entry (.pointer (some ⟨r, 0, none⟩))).run Tryz.prog w' = .ok (.tuple #[.string x, .int .i64 c]) w' → wpList Tryz.prog ops Q rest (a.put o.dst (.tuple #[.bool true, .string x, .int .i64 c])) w') :
    wpList Tryz.prog ops Q (o :: rest) a w :=
  wpList_next_ranges w hg it hop 9 Tryz.lawStr (plainElem Tryz.prog 3) Value.string (Value.int .i64) (fun key kl hkey => by obtain ⟨x, rfl, _⟩ := keyOf_string_inv hkey; exact ⟨x, rfl⟩) (fun v y hv => by obtain ⟨c, rfl, _⟩ := plainElem_int_inv Tryz.underlying3 hv; exact ⟨c, rfl⟩)
    b r n D left cnt hit h hDone (fun x c kl y w' cnt' hkey hlk hv hat hrg hlt hgr _ hen => by
      obtain ⟨x', ex, rfl, hwx⟩ := keyOf_string_inv hkey
      cases ex
      obtain ⟨c', ec, rfl, hwc⟩ := plainElem_int_inv Tryz.underlying3 hv
      cases ec
      exact hMore x c w' cnt' hwx hlk hat hrg hlt hgr hen)
/-- The values of variables, as a table. -/
def VarsD (D : Table) (X : ByteArray → Int) (ts : List (ByteArray × Int)) : Prop := ∀ t ∈ ts, D.atKey (strL t.1) (lit64 0) = lit64 (X t.1)
theorem name_not_isEmpty {s : ByteArray} (h : nameB s = true) : s.toList.isEmpty = false := by
  cases hl : s.toList with
  | nil => exact absurd (bytes_ext (a := s) (b := ByteArray.empty) (by rw [hl, ByteArray.toList_eq]; rfl)) (name_ne_empty h)
  | cons _ _ => rfl
def GivesDrawn (v : Value) (w : World) (e : Ending) (w' : World) : Prop := e = .returned v ∧ w.grownBy w' none
set_option maxRecDepth 100000 in
set_option maxHeartbeats 1000000 in
theorem value_any (c : Int) (ts : List (ByteArray × Int)) (X : ByteArray → Int) (D Dx : Table) (Bp np Bx nx : Nat) (w : World) (hgood : formErr c ts = 0) (hP : MapAt w Bp np D) (hD : PolyD D c ts)
    (hV : MapAt w Bx nx Dx) (hX : VarsD Dx X ts) (hXb : ∀ s, -1000000 ≤ X s ∧ X s ≤ 1000000) :
    Calls Tryz.prog 39 #[.map (some Bp), .map (some Bx)] w (GivesDrawn (.int .i64 (valueOf X c ts)) w) := by
  obtain ⟨⟨hc1, hc2⟩, h12, hts, hpw⟩ := form_good hgood
  have HP := Lib.hid hP
  have HD := Lib.hid hD
  have HV := Lib.hid hV
  have HX := Lib.hid hX
  have HB := Lib.hid hXb
  have HT := Lib.hid hts
  have HW := Lib.hid hpw
  have HS := Lib.hid (fun left => doneSum_bound (left := left) h12 (fun t ht => (hts t ht).2) hXb)
  have HC := Lib.hid (hD.2.1 (lit64 0))
  have hlt := World.ownsMap.lt hP
  have hlt' := World.ownsMap.lt hV
  clear hP hD hV hX hXb hts hpw hgood
  have hkey := key_str (s := ByteArray.empty) (Nat.zero_le _)
  go_enter Tryz.func39, Tryz.ntmps39
  go_wp2_with (first
    | (at_lookup; refine wpList_lookup_own_int _ rfl _ _ 78 rfl 9 3 .i64 Tryz.lawStr Tryz.underlying78 Tryz.underlying3 (Tryz.zeroInt _) Bp np D rfl HP.out _ _ rfl hkey ?_; intro c' hat hwc; obtain rfl : c = c' := (by have := hat.symm.trans HC.out; simpa [lit64] using this.symm); clear hat hwc)
    | (at_range; refine wpList_range_own _ rfl _ 78 rfl 9 3 Tryz.lawStr Tryz.underlying78 _ Bp np D rfl HP.out ?_; intro w0 hrg0 hg0 hs0; have R0 := Lib.hid hrg0; have G0 := Lib.hid hg0; clear hrg0 hg0 hs0))
  go_frame
  go_loopw [5] (fun out wr => ∃ (left : Lit → Bool) (cnt : Nat), out = .int .i64 (c + doneSum X left ts) ∧ Hid (wr.ranges Tryz.prog 9 (plainElem Tryz.prog 3) Bp w.heap.size np D left cnt) ∧
      Hid (∀ kl, left kl = true → has D kl = true) ∧ Hid (w.grownBy wr none)) (fun _ wr => wr.rangeLeft Bp w.heap.size)
  case atStart => exact ⟨_, _, by rw [doneSum_none (fun t ht => has_true_of_atKey (HD.out.2.2.1 t ht))]; simp, R0.out, fun _ h => h, G0.out⟩
  case round =>
    obtain ⟨left, cnt, rfl, HR, HL, HG⟩ := hrel
    obtain ⟨hq1, hq2⟩ := HS.out left
    have Hq := Lib.hid (show doneSum X left ts = doneSum X left ts from rfl)
    generalize hq : doneSum X left ts = q at *
    have HQ := Lib.hid hq
    clear hq
    go_wp2_with (first
      | (at_next; refine wpList_next_si _ rfl _ rfl Bp w.heap.size np D left cnt rfl HR.out ?_ ?_))
    · intro _ hl0
      have HZ := Lib.hid hl0
      clear hl0
      go_wp2
      go_ret
      exact ⟨ret_i64 (by rw [← HQ.out, doneSum_all HZ.out]; rfl), HG.out⟩
    · intro x z w1 cnt1 hsz hlx hat hrg1 hlt1 hg1 hen
      have HG1 : Hid (w.grownBy w1 none) := grown_own HG.out hg1 (fun i hi => by cases hi; omega)
      have HLx := Lib.hid hlx
      have HR1 := Lib.hid hrg1
      have Hlt := Lib.hid hlt1
      have HL1 : Hid (∀ kl, (left kl && !kl.sameKey (strL x)) = true → has D kl = true) := fun kl h => HL.out kl (by simp only [Bool.and_eq_true] at h; exact h.1)
      have hkeyx := key_str hsz
      rcases HD.out.2.2.2 _ (HL.out _ hlx) with e | ⟨t, ht, e⟩
      · obtain rfl := strL_inj e
        have HN := Lib.hid (doneSum_other (X := X) (left := left) (x := ByteArray.empty) (ts := ts) (fun t ht => name_ne_empty (HT.out t ht).1))
        clear hat hrg1 hlt1 hg1 hlx e
        go_wp2
        go_roundw
        case rel => exact ⟨_, cnt1, by rw [HN.out, HQ.out], HR1.out, HL1.out, HG1.out⟩
        case measure => rw [World.ranges.left_eq HR1.out, World.ranges.left_eq HR.out]; exact Hlt.out
      · obtain rfl := strL_inj e
        have hz : z = t.2 := by have := (hat (lit64 0)).symm.trans (HD.out.2.2.1 t ht (lit64 0)); simpa [lit64] using this
        have HN := Lib.hid (doneSum_step (X := X) (left := left) HW.out ht hlx)
        have HXt := Lib.hid (HX.out t ht)
        obtain ⟨b1, b2⟩ := (HT.out t ht).2
        obtain ⟨b3, b4⟩ := HB.out t.1
        obtain ⟨b5, b6⟩ := prod_bound b1 b2 b3 b4
        rw [← hz] at b1 b2 b5 b6 HN
        have hE := name_not_isEmpty (HT.out t ht).1
        clear hat hrg1 hlt1 hg1 hlx e hz
        go_wp2_with (first
          | (at_lookup; refine wpList_lookup_own_int _ rfl _ _ 73 rfl 9 3 .i64 Tryz.lawStr Tryz.underlying73 Tryz.underlying3 (Tryz.zeroInt _) Bx nx Dx rfl (World.ownsMap.kept HV.out HG1.out (by simp)) _ _ rfl hkeyx ?_; intro c' hat hwc; obtain rfl : X t.1 = c' := (by have := hat.symm.trans HXt.out; simpa [lit64] using this.symm); clear hat hwc))
        go_roundw
        case rel => exact ⟨_, cnt1, by rw [HN.out, HQ.out, Int.add_assoc], HR1.out, HL1.out, HG1.out⟩
        case measure => rw [World.ranges.left_eq HR1.out, World.ranges.left_eq HR.out]; exact Hlt.out
end Go.Proofs.YtblpknkgjkbacaaGreatDoor
namespace Go.Proofs.YtblpknkgjkbacaaGreatDoor
open Go.RowKit Go.Maps Go.WideMaps
attribute [local go_sem ↓] Go.wp_at_zero Go.wp_at_succ
/-- Numbers, as they lie in memory. -/
def IntsAt (w : World) (v : Value) (xs : List Int) : Prop :=
  ∃ p cap, v = .slice p xs.length cap ∧ xs.length ≤ 1000000 ∧ ∀ j x, xs[j]? = some x → ∃ b off, p = some ⟨b, off, none⟩ ∧ (-9223372036854775808 ≤ x ∧ x ≤ 9223372036854775807) ∧ w.cell? ⟨b, off + j, none⟩ = some (.int .i64 x)
theorem IntsAt.kept {w w' : World} {v : Value} {xs : List Int} (h : IntsAt w v xs) (hg : w.grownBy w' none) : IntsAt w' v xs := by
  obtain ⟨p, cap, hv, hl, hc⟩ := h
  refine ⟨p, cap, hv, hl, fun j s hj => ?_⟩
  obtain ⟨b, off, hp, hb, h⟩ := hc j s hj
  exact ⟨b, off, hp, hb, hg.cell h (by simp)⟩
end Go.Proofs.YtblpknkgjkbacaaGreatDoor
namespace Go.Proofs.YtblpknkgjkbacaaGreatDoor
open Go.RowKit
attribute [local go_sem ↓] Go.wp_at_zero Go.wp_at_succ
variable {w0 : World} {H : Nat} {n : Nat}
theorem grown_set (w : World) (B i : Nat) (v : Value) : w.grownBy (w.setCell ⟨B, i, none⟩ v) (some B) :=
  ⟨rfl, rfl, rfl, by simp [World.setCell], fun k _ hk => Below.heap_setCell w ⟨B, i, none⟩ _ k (by simpa using hk)⟩
end Go.Proofs.YtblpknkgjkbacaaGreatDoor
