/-
 bits.Mul64 and bits.Mul.
 slices.Repeat of conditions.
 The conditions, forty times.
-/
import Derived.Test.YtfilcaolgfghcaaGreatDraws
import Derived.Shelf.Bits.Mul64
import Derived.Test.YtfilcaolgfghcaaGreatClear
import Derived.Test.YtfilcaolgfghcaaGreatParts
import Derived.WalkSpells
import Derived.IntWalk
import Derived.Deep.DeepMust
namespace Go.Proofs.YtfilcaolgfghcaaGreat
open Go.RowKit Go.Lib

def MulOf (x y : Nat) (w : World) (e : Ending) (w' : World) : Prop :=
  e = .returned (.tuple #[.int .u64 ((x * y / 18446744073709551616 : Nat) : Int), .int .u64 ((x * y % 18446744073709551616 : Nat) : Int)]) ∧ w' = w

set_option maxHeartbeats 1000000 in
theorem mul64_any (x y : Nat) (hx : x < 18446744073709551616) (hy : y < 18446744073709551616) (w : World) :
    Calls Tryz.prog 92 #[.int .u64 x, .int .u64 y] w (MulOf x y w) := by
  obtain ⟨bd, bt, bw, hhi⟩ := Lib.mul64_hi x y hx hy
  have ba := Lib.half_mul_le (a := x / 4294967296) (b := y / 4294967296) (by omega) (by omega)
  have bb := Lib.half_mul_le (a := x / 4294967296) (b := y % 4294967296) (by omega) (by omega)
  have bc := Lib.half_mul_le (a := x % 4294967296) (b := y / 4294967296) (by omega) (by omega)
  have ba' : x / 4294967296 * (y / 4294967296) < 18446744073709551616 := by omega
  have bb' : x / 4294967296 * (y % 4294967296) < 18446744073709551616 := by omega
  have bc' : x % 4294967296 * (y / 4294967296) < 18446744073709551616 := by omega
  have bh1 : x / 4294967296 * (y / 4294967296) + (x / 4294967296 * (y % 4294967296) + x % 4294967296 * (y % 4294967296) / 4294967296) / 4294967296 < 18446744073709551616 := by omega
  have bh : x / 4294967296 * (y / 4294967296) + (x / 4294967296 * (y % 4294967296) + x % 4294967296 * (y % 4294967296) / 4294967296) / 4294967296 + ((x / 4294967296 * (y % 4294967296) + x % 4294967296 * (y % 4294967296) / 4294967296) % 4294967296 + x % 4294967296 * (y / 4294967296)) / 4294967296 < 18446744073709551616 := by omega
  go_enter Tryz.func92, Tryz.ntmps92
  go_wp2
  simp only [Mul64.maskN x hx, Mul64.maskN y hy, Mul64.divN, Mul64.mulN, Mul64.addN, Mul64.wrapN _ bd, Mul64.wrapN _ bb', Mul64.wrapN _ bt, Mul64.maskN _ bt, Mul64.wrapN _ bc', Mul64.wrapN _ bw, Mul64.wrapN _ ba', Mul64.wrapN _ bh1, Mul64.wrapN _ bh, Mul64.wrapM (x * y)]
  rw [hhi]
  go_ret2
  exact ⟨rfl, rfl⟩

set_option maxHeartbeats 1000000 in
theorem mul_any (x y : Nat) (hx : x < 18446744073709551616) (hy : y < 18446744073709551616) (w : World) :
    Calls Tryz.prog 62 #[.int .u64 x, .int .u64 y] w (MulOf x y w) := by
  go_enter Tryz.func62, Tryz.ntmps62
  go_wp2_with (go_at_call 92; refine (mul64_any x y hx hy w).mono ?_; rintro e w' ⟨rfl, rfl⟩)
  go_ret2
  exact ⟨rfl, rfl⟩

end Go.Proofs.YtfilcaolgfghcaaGreat

namespace Go.Proofs.YtfilcaolgfghcaaGreat
open Go.RowKit

theorem Tryz.infoFormR : (Tryz.prog.info? 33).map (fun i => (i.zero, i.size, i.bytes)) = some (some (.agg #[.int .i64 0, .slice none 0 0]), 2, 32) := by kernel_rfl

/-- A block that holds the list again and again up to cell 2*D. -/
def Filled (w : World) (g N n D : Nat) (xs : List Value) : Prop :=
  ∃ cur : Array Value, w.heap[g]? = some (.cells cur 33 (0, 0)) ∧ cur.size = N * 2 ∧ ∀ j, j < D * 2 → cur[j]? = xs[j % (n * 2)]?

theorem made_cells {w : World} {base g N : Nat} {xs : List Value} (h : w.ownsRow base 33 2 (.slice (some ⟨g, 0, none⟩) N N) N xs) : ∃ cur, w.heap[g]? = some (.cells cur 33 (0, 0)) ∧ cur.size = N * 2 := by
  rcases h.2 with ⟨h', _⟩ | ⟨g', cap', cur, h', _, hg, _, _, hs, _⟩
  · simp at h'
  · simp only [Value.slice.injEq, Option.some.injEq, Addr.mk.injEq, and_true, true_and] at h'
    obtain ⟨rfl, rfl⟩ := h'
    exact ⟨cur, hg, hs⟩

theorem filled_first {w : World} {g N n : Nat} {xs : List Value} {cur : Array Value} (hg : w.heap[g]? = some (.cells cur 33 (0, 0))) (hs : cur.size = N * 2) (hl : xs.length = n * 2) (hn : n ≤ N) :
    Filled (w.setRow g (cur.toList.take 0 ++ (xs ++ cur.toList.drop (0 + xs.length))).toArray) g N n n xs := by
  refine ⟨_, setRow_heap w g _ _ _ _ hg, ?_, fun j hj => ?_⟩
  · simp [hl, hs]
    omega
  · rw [Nat.mod_eq_of_lt hj]
    simp
    rw [List.getElem?_append_left (by omega)]

theorem filled_step {w : World} {g N n D m : Nat} {xs : List Value} {cur : Array Value} (hg : w.heap[g]? = some (.cells cur 33 (0, 0))) (hs : cur.size = N * 2) (hc : ∀ j, j < D * 2 → cur[j]? = xs[j % (n * 2)]?)
    (hd : n ∣ D) (hm : m ≤ D) (hmN : D + m ≤ N) :
    Filled (w.setRow g (cur.toList.take (D * 2) ++ (cur.toList.take (m * 2) ++ cur.toList.drop (D * 2 + (cur.toList.take (m * 2)).length))).toArray) g N n (D + m) xs := by
  have hlt : (cur.toList.take (D * 2)).length = D * 2 := by simp [hs]; omega
  have hlm : (cur.toList.take (m * 2)).length = m * 2 := by simp [hs]; omega
  refine ⟨_, setRow_heap w g _ _ _ _ hg, ?_, fun j hj => ?_⟩
  · simp only [List.size_toArray, List.length_append, hlt, hlm, List.length_drop, Array.length_toList, hs]
    omega
  · simp only [List.getElem?_toArray]
    by_cases h1 : j < D * 2
    · rw [List.getElem?_append_left (by omega), List.getElem?_take_of_lt h1, Array.getElem?_toList]
      exact hc j h1
    · rw [List.getElem?_append_right (by omega), hlt, List.getElem?_append_left (by omega), List.getElem?_take_of_lt (by omega), Array.getElem?_toList, hc _ (by omega)]
      obtain ⟨k, rfl⟩ := hd
      congr 1
      have e : j = (j - n * k * 2) + n * 2 * k := by
        have : n * 2 * k = n * k * 2 := by rw [Nat.mul_right_comm]
        omega
      conv => rhs; rw [e, Nat.add_mul_mod_self_left]

theorem copy_src {w : World} {g k j : Nat} {cur : Array Value} {t : TypeId} {v : Value} (h : w.heap[g]? = some (.cells cur t (0, 0))) (hj : (cur.toList.take k)[j]? = some v) : w.cell? ((⟨g, 0, none⟩ : Addr).add j) = some v := by
  have hadd : (⟨g, 0, none⟩ : Addr).add j = ⟨g, j, none⟩ := by unfold Addr.add; split <;> simp_all
  rw [hadd]
  have hjk : j < k := by
    have := (List.getElem?_eq_some_iff.1 hj).1
    simp at this
    omega
  rw [List.getElem?_take_of_lt hjk, Array.getElem?_toList] at hj
  simp [World.cell?, h, hj]
theorem filled_one {xs : List Value} {cur : Array Value} {n D m : Nat} {v : Value} (h1 : ∀ v ∈ xs, v.oneCell' = true) (h : ∀ j, j < D * 2 → cur[j]? = xs[j % (n * 2)]?) (hm : m ≤ D) (hv : v ∈ cur.toList.take (m * 2)) : v.oneCell' = true := by
  obtain ⟨j, hj, rfl⟩ := List.getElem_of_mem hv
  have hj2 : j < m * 2 := by simp at hj; omega
  have h3 := h j (by omega)
  have h4 : (cur.toList.take (m * 2))[j]? = cur[j]? := by rw [List.getElem?_take_of_lt hj2, Array.getElem?_toList]
  rw [List.getElem?_eq_getElem hj, h3] at h4
  exact h1 _ (List.mem_of_getElem? h4.symm)

theorem Tryz.infoForm2 : (Tryz.prog.info? 33).map (·.size) = some 2 := by kernel_rfl

/-- The same list, again and again, in a block of its own. -/
def RepeatOf (xs : List Value) (n c : Nat) (w : World) (e : Ending) (w' : World) : Prop :=
  ∃ g, e = .returned (.slice (some ⟨g, 0, none⟩) (n * c) (n * c)) ∧ w.heap.size ≤ g ∧ w.grownBy w' none ∧ ∀ j, j < n * c * 2 → w'.cell? ⟨g, j, none⟩ = xs[j % (n * 2)]?

set_option maxRecDepth 100000 in
set_option maxHeartbeats 2000000 in
theorem repeat_some (xs : List Value) (n : Nat) (ad : Addr) (cap : Nat) (w : World) (hn : n ≤ 1000) (hl : xs.length = n * 2) (hp : ∀ j v, xs[j]? = some v → w.cell? (ad.add j) = some v)
    (h1 : ∀ v ∈ xs, v.oneCell' = true) :
    Calls Tryz.prog 26 #[.slice (some ad) n cap, .int .i64 40] w (RepeatOf xs n 40 w) := by
  obtain ⟨N, hN⟩ : ∃ N : Nat, n * 40 = N := ⟨_, rfl⟩
  have e1 : n * 40 / 18446744073709551616 = 0 := by omega
  have e2 : n * 40 % 18446744073709551616 = N := by omega
  have hdN : decide ((9223372036854775807 : Int) < (N : Int)) = false := by simp; omega
  go_enter Tryz.func26, Tryz.ntmps26
  obtain ⟨j0, hj0, hy0, hy1, hy2⟩ := info_parts Tryz.infoFormR
  have HN := Lib.hid hN
  have HP := Lib.hid hp
  have HX := Lib.hid hl
  have H1 := Lib.hid h1
  have hN40 : N ≤ 40000 := by omega
  clear hN hp hl h1
  go_wp2_with (first
    | (go_at_call 62; refine (mul_any n 40 (by omega) (by omega) _).mono ?_; rintro e w' ⟨rfl, hw⟩; rw [e1, e2, hw]; clear hw)
    | (at_make; go_must (refine wpList_make_full w rfl _ _ 27 rfl w.heap.size 33 j0 (.agg #[.int .i64 0, .slice none 0 0]) 2 Tryz.underlying27 hj0 hy0 hy1 .i64 .i64 _ _ N rfl rfl rfl rfl (by rw [hy2]; omega) (by unfold maxLen; omega) (Nat.le_refl _) ?_; intro w1 hown hg1; obtain ⟨cur, hcur, hcs⟩ := made_cells hown; have HG1 := Lib.hid hg1; have HC1 := Lib.hid hcur; have hsz1 := hg1.size; clear hown hg1 hcur))
    | (refine wpList_copy_wide rfl _ _ _ _ rfl 33 2 n Tryz.underlying27 Tryz.infoForm2 w.heap.size 0 N N ad n cap rfl rfl cur _ HC1.out xs (Nat.min_eq_left (by have := HN.out; omega)) HX.out (fun j v hj => HG1.out.cell (HP.out j v hj) (by simp)) (by have := HN.out; have := HX.out; omega) H1.out ?_))
  have HF := Lib.hid (filled_first HC1.out hcs HX.out (n := n) (by have := HN.out; omega))
  have HGr := Lib.hid (show w.grownBy (w1.setRow w.heap.size (xs ++ cur.toList.drop xs.length).toArray) none from ⟨HG1.out.os, HG1.out.tape, HG1.out.output, by simpa using hsz1, fun k hk hne => (setRow_other _ _ _ _ (by omega)).trans (HG1.out.block k hk hne)⟩)
  simp only [List.take_zero, List.nil_append, Nat.zero_add] at HF
  generalize w1.setRow w.heap.size (xs ++ cur.toList.drop xs.length).toArray = w2 at *
  go_loopw [8] (fun i wr => ∃ D : Nat, D ≤ N ∧ i = .int .i64 D ∧ n ≤ D ∧ Hid (n ∣ D) ∧ Hid (w.grownBy wr none) ∧ Hid (Filled wr w.heap.size N n D xs)) (fun i _ => N - (intOf i).toNat)
  case atStart => exact ⟨n, by have := HN.out; omega, rfl, Nat.le_refl _, Nat.dvd_refl _, HGr.out, HF.out⟩
  case round =>
    obtain ⟨D, hD, rfl, hnD, HDv, HGw, HFl⟩ := hrel
    by_cases hlt : D < N
    · go_wp2_with (fail)
      obtain ⟨cur2, h2g, h2s, h2c⟩ := HFl.out
      obtain ⟨m, hm⟩ : ∃ m, Nat.min D (N - D) = m := ⟨_, rfl⟩
      have hm1 : m ≤ D := hm ▸ Nat.min_le_left _ _
      have hm2 : m ≤ N - D := hm ▸ Nat.min_le_right _ _
      have hpos : 0 < m := hm ▸ (by rw [Nat.lt_min]; have := HN.out; omega)
      have hne : ¬ N = D := by omega
      have hwr := IntWalk.i64_in (↑D + ↑m) (by omega)
      have H2 := Lib.hid h2g
      have H3 := Lib.hid h2c
      have HM := Lib.hid hm
      clear h2g h2c hm
      have hcl : (cur2.toList.take (m * 2)).length = m * 2 := by simp [h2s]; omega
      have HCL := Lib.hid hcl
      have HSrc := Lib.hid (fun j v (hj : (cur2.toList.take (m * 2))[j]? = some v) => show wr.cell? ((⟨w.heap.size, 0, none⟩ : Addr).add j) = some v from copy_src H2.out hj)
      have HOne := Lib.hid (fun v (hv : v ∈ cur2.toList.take (m * 2)) => filled_one H1.out H3.out (by omega) hv)
      have HFit := Lib.hid (show D * 2 + (cur2.toList.take (m * 2)).length ≤ cur2.size by rw [hcl, h2s]; omega)
      clear hcl
      go_region_law ((refine step_copy_wide (by rfl) (.tmp 41) (.tmp 44) 27 27 (by rfl) 33 2 m Tryz.underlying27 Tryz.infoForm2 w.heap.size (D * 2) (N - D) (N - D) ⟨w.heap.size, 0, none⟩ D N ?hd ?hs cur2 _ H2.out (cur2.toList.take (m * 2)) HM.out HCL.out HSrc.out HFit.out HOne.out ?_; (case hd => (simp [Act.eval, Act.put])); (case hs => (simp [Act.eval, Act.put])); intro w3 hw3; have HW3 := Lib.hid hw3; clear hw3))
      simp [Act.put]
      go_roundw
      case rel =>
        have hn1 : n ∣ N := ⟨40, HN.out.symm⟩
        have hdm : n ∣ m := by
          rw [← HM.out]
          show n ∣ min D (N - D)
          rcases Nat.le_total D (N - D) with h | h
          · rw [Nat.min_eq_left h]; exact HDv.out
          · rw [Nat.min_eq_right h]; exact Nat.dvd_sub hn1 HDv.out
        (repeat apply Exists.intro)
        refine ⟨⟨D + m, by omega, ?_, by omega, Nat.dvd_add HDv.out hdm, ?_, ?_⟩, rfl⟩
        · go_num
        · show World.grownBy _ _ _
          rw [HW3.out]
          exact ⟨HGw.out.os, HGw.out.tape, HGw.out.output, by have := HGw.out.size; simpa using this, fun k hk hne => (setRow_other _ _ _ _ (by omega)).trans (HGw.out.block k hk hne)⟩
        · show Filled _ _ _ _ _ _
          rw [HW3.out]
          exact filled_step H2.out h2s H3.out HDv.out hm1 (by omega)
      case measure => simp [intOf]; omega
    · obtain rfl : D = N := by omega
      go_wp2_with (fail)
      go_ret
      obtain ⟨cur2, h2g, h2s, h2c⟩ := HFl.out
      have hnn := HN.out
      refine ⟨w.heap.size, ?_, Nat.le_refl _, HGw.out, fun j hj => ?_⟩
      · simp [hnn]
      · rw [hnn] at hj
        rw [← h2c j hj]
        simp [World.cell?, h2g]

end Go.Proofs.YtfilcaolgfghcaaGreat

namespace Go.Proofs.YtfilcaolgfghcaaGreat
open Go.RowKit

theorem rep_get {α : Type} (l : List α) : ∀ (c j : Nat), j < c * l.length → ((List.replicate c l).flatten)[j]? = l[j % l.length]?
  | 0, j, h => by simp at h
  | c + 1, j, h => by
    rw [List.replicate_succ, List.flatten_cons]
    by_cases hj : j < l.length
    · rw [List.getElem?_append_left hj, Nat.mod_eq_of_lt hj]
    · rw [List.getElem?_append_right (by omega), rep_get l c (j - l.length) (by rw [Nat.add_mul] at h; omega)]
      rw [show j % l.length = (j - l.length) % l.length from Nat.mod_eq_sub_mod (by omega)]

theorem wpList_copy_nil {P : Program} {w : World} {ops : Array Oper} {rest : List Oper} {o : Oper} {a : Act} {Q : Exit → Act → World → Prop} (hgd : o.guard = none) (d s : Operand) (dT sT : TypeId)
    (ho : o.op = .call { callee := .builtin .copy, args := #[d, s], argTypes := #[dT, sT] }) (elem : TypeId) (size : Nat) (hu : P.underlying dT = some (.slice elem)) (hsz : (P.info? elem).map (·.size) = some size)
    (g dLen dCap : Nat) (hd : a.eval d = .slice (some ⟨g, 0, none⟩) dLen dCap) (hs : a.eval s = .slice none 0 0)
    (h : wpList P ops Q rest (a.put o.dst (goInt 0)) w) : wpList P ops Q (o :: rest) a w := by
  refine wpList_plain hgd fun K hK => ?_
  have hrun := run_copy_nil (P := P) w dT sT o.type elem ⟨g, 0, none⟩ dLen dCap hu (by rw [hsz]; rfl)
  unfold Oper.wp
  simp [execOp, ho, resolve, invoke, builtin, hd, hs, hrun, Result.andThen]
  exact hK _ _ h

theorem rep_len {α : Type} (l : List α) : ∀ (c : Nat), ((List.replicate c l).flatten).length = l.length * c
  | 0 => rfl
  | c + 1 => by rw [List.replicate_succ, List.flatten_cons, List.length_append, rep_len l c, Nat.mul_succ, Nat.add_comm]

theorem conds_repeat {w2 : World} {P n g c : Nat} {cv : Value} {cs : List CondD} {tvs : List Value} (h : CSt w2 P cv cs tvs) (hn : cs.length = n) (hcl : n * c ≤ 40000)
    (hc : ∀ j, j < n * c * 2 → w2.cell? ⟨g, j, none⟩ = ((cs.zip tvs).flatMap condCells)[j % (n * 2)]?) : CondsAt w2 (.slice (some ⟨g, 0, none⟩) (n * c) (n * c)) ((List.replicate c cs).flatten) := by
  have hlen : ((List.replicate c cs).flatten).length = n * c := by rw [rep_len, hn]
  refine ⟨some ⟨g, 0, none⟩, n * c, by rw [hlen], by rw [hlen]; omega, fun j f hj => ?_⟩
  have hjl : j < n * c := by rw [← hlen]; exact (List.getElem?_eq_some_iff.1 hj).1
  have hn0 : 0 < n := by
    rcases Nat.eq_zero_or_pos n with h0 | h0
    · rw [h0, Nat.zero_mul] at hjl
      omega
    · exact h0
  rw [rep_get cs c j (by rw [hn, Nat.mul_comm]; exact hjl), hn] at hj
  have hml : j % n < n := Nat.mod_lt _ hn0
  have hjt : tvs[j % n]? = some (tvs[j % n]'(by rw [h.len]; omega)) := List.getElem?_eq_getElem _
  generalize tvs[j % n]'(by rw [h.len]; omega) = tv at hjt
  have hz : (cs.zip tvs)[j % n]? = some (f, tv) := by
    rw [List.getElem?_zip_eq_some]
    exact ⟨hj, hjt⟩
  obtain ⟨⟨g1, g2⟩, g3, g4⟩ := h.good f (List.mem_of_getElem? hj)
  have m0 : (j * 2) % (n * 2) = (j % n) * 2 + 0 := by rw [Nat.mul_mod_mul_right]; rfl
  have m1 : (j * 2 + 1) % (n * 2) = (j % n) * 2 + 1 := by
    have h1 := Nat.div_add_mod j n
    have h2 : j * 2 + 1 = ((j % n) * 2 + 1) + (n * 2) * (j / n) := by
      have h3 : n * 2 * (j / n) = n * (j / n) * 2 := by rw [Nat.mul_assoc, Nat.mul_comm 2, ← Nat.mul_assoc]
      omega
    rw [h2, Nat.add_mul_mod_self_left, Nat.mod_eq_of_lt (by omega)]
  refine ⟨g, 0, tv, rfl, ?_, ?_, terms_of_owns (h.terms _ f tv hj hjt).1 (by omega) g4, by omega, by omega⟩
  · rw [Nat.zero_add, hc _ (by omega), m0]
    exact flat_get (f := condCells) (k := 2) (fun _ => rfl) hz (i := 0) (v := Value.int .i64 f.1) rfl
  · rw [Nat.zero_add, hc _ (by omega), m1]
    exact flat_get (f := condCells) (k := 2) (fun _ => rfl) hz (i := 1) (v := tv) rfl

set_option maxRecDepth 100000 in
set_option maxHeartbeats 2000000 in
theorem repeat_nil (xs : List Value) (w : World) :
    Calls Tryz.prog 26 #[.slice none 0 0, .int .i64 40] w (RepeatOf xs 0 40 w) := by
  go_enter Tryz.func26, Tryz.ntmps26
  obtain ⟨j0, hj0, hy0, hy1, hy2⟩ := info_parts Tryz.infoFormR
  go_wp2_with (first
    | (go_at_call 62; refine (mul_any 0 40 (by omega) (by omega) _).mono ?_; rintro e w' ⟨rfl, hw⟩; rw [hw]; clear hw; simp only [Nat.zero_mul, Nat.zero_div, Nat.zero_mod])
    | (at_make; go_must (refine wpList_make_full w rfl _ _ 27 rfl w.heap.size 33 j0 (.agg #[.int .i64 0, .slice none 0 0]) 2 Tryz.underlying27 hj0 hy0 hy1 .i64 .i64 _ _ 0 rfl rfl rfl rfl (by rw [hy2]; omega) (by unfold maxLen; omega) (Nat.le_refl _) ?_; intro w1 hown hg1; have HG1 := Lib.hid hg1; clear hown hg1))
    | (refine wpList_copy_nil rfl _ _ _ _ rfl 33 2 Tryz.underlying27 Tryz.infoForm2 w.heap.size 0 0 rfl rfl ?_))
  go_loopw [8] (fun i wr => i = .int .i64 0 ∧ Hid (w.grownBy wr none)) (fun i _ => 0)
  case atStart => exact ⟨rfl, HG1.out⟩
  case round =>
    obtain ⟨rfl, HGw⟩ := hrel
    go_wp2_with (fail)
    go_ret
    exact ⟨w.heap.size, rfl, Nat.le_refl _, HGw.out, fun j hj => by omega⟩

/-- Either way. -/
theorem repeat_any {w : World} {P cap n : Nat} {p : Option Addr} {cs : List CondD} {tvs : List Value} (h : CSt w P (.slice p n cap) cs tvs) (hn : cs.length = n) (hl : n ≤ 1000) :
    Calls Tryz.prog 26 #[.slice p n cap, .int .i64 40] w (RepeatOf ((cs.zip tvs).flatMap condCells) n 40 w) := by
  subst hn
  rcases h.row.2 with ⟨hv, hz⟩ | ⟨g, c, cur, hv, _⟩
  · obtain ⟨rfl, _, rfl⟩ := Value.slice.inj hv
    rw [hz]
    exact repeat_nil _ w
  · obtain ⟨rfl, _, rfl⟩ := Value.slice.inj hv
    refine repeat_some _ _ _ _ _ hl h.row.1 (fun j v hj => ?_) (fun v hv => ?_)
    · obtain ⟨g2, c2, e, _, k⟩ := own_cell h.row hj
      obtain ⟨e1, _, _⟩ := Value.slice.inj e
      cases e1
      have hadd : (⟨g, 0, none⟩ : Addr).add j = ⟨g, j, none⟩ := by unfold Addr.add; split <;> simp_all
      rw [hadd]
      exact k
    · obtain ⟨⟨f, tv⟩, hm, hv⟩ := List.mem_flatMap.1 hv
      obtain ⟨j, hj⟩ := List.mem_iff_getElem?.1 hm
      rw [List.getElem?_zip_eq_some] at hj
      obtain ⟨q, c3, htv⟩ := own_form (h.terms j f tv hj.1 hj.2).1
      simp [condCells] at hv
      rcases hv with rfl | rfl
      · rfl
      · rw [htv]; rfl
end Go.Proofs.YtfilcaolgfghcaaGreat
