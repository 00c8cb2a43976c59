/-
 FormOver: what is wrong with a form over a set.
-/
import Derived.Test.YtfilcaolgfghcaaGreatSet
import Derived.Test.YtfilcaolgfghcaaGreatParts
import Derived.Test.YtfilcaolgfghcaaGreatSpace
namespace Go.Proofs.YtfilcaolgfghcaaGreat
open Go.RowKit
attribute [local go_sem ↓] Go.wp_at_zero Go.wp_at_succ

/-- The append of one element in a block whose number is told. -/
theorem append_one_b {P : Program} {ops : Array Oper} {rest : List Oper} {o : Oper} {a : Act} {Q : Exit → Act → World → Prop} {w : World} (hgd : o.guard = none) (s x : Operand) (t : TypeId)
    (ho : o.op = .call { callee := .builtin .append, args := #[s, x], argTypes := #[t, t] })
    (base : Nat) (e : TypeId) (i : TypeInfo) (z : Value) (size bytes : Nat) (ht : P.underlying t = some (.slice e)) (hi : P.info? e = some i) (hz : i.zero = some z)
    (hsize : i.size = size) (hby : i.bytes = bytes) (hzs : z.cells.size = size) (hsz : 0 < size) (hbb : bytes ≤ 1000)
    (v : Value) (n : Nat) (xs news : List Value) (hs : a.eval s = v) (hown : w.ownsRow base e size v n xs) (b : Nat) (hb : w.heap.size = b)
    (hx : a.eval x = .slice (some ⟨b, 0, none⟩) 1 1) (hl : news.length = size) (h1 : ∀ u ∈ news, u.oneCell' = true)
    (hn : n ≤ 1000000) (hbase : base ≤ w.heap.size)
    (h : ∀ v' w', w'.ownsRow base e size v' (n + 1) (xs ++ news) → w.grownBy w' v.ownBlock → (∀ k, v.ownBlock = some k → base ≤ k) → wpList P ops Q rest (a.put o.dst v') w') :
    wpList P ops Q (o :: rest) a (w.alloc (.cells news.toArray e)) := by
  subst hb
  exact append_one_at hgd s x t ho base e i z size bytes ht hi hz hsize hby hzs hsz hbb v n xs news hs hown hx hl h1 hn hbase h

set_option maxRecDepth 100000 in
set_option maxHeartbeats 2000000 in
theorem formOver_any (l : List SideD) (c : Int) (ts : List (ByteArray × Int)) (sv cv tv : Value) (w : World) (hS : SidesAt w sv l) (ht : TermsAt w tv ts) :
    Calls Tryz.prog 15 #[.agg #[sv, cv], .agg #[.int .i64 c, tv]] w (Gives (.int .i64 (aroundErr (namesOf l) (c, ts))) w) := by
  obtain ⟨p, cap, rfl, ⟨hl, _⟩, hc⟩ := hS
  obtain ⟨pt, tcap, rfl, htl, htc⟩ := id ht
  have H := Lib.hid hc
  have HT := Lib.hid ht
  clear hc ht htc
  obtain ⟨i0, hi, hz0, hz1, hz2⟩ := info_parts Tryz.infoStr
  have hgs : w.grownBy ((w.alloc (.cells #[.slice p l.length cap, cv] 29)).alloc (.cells #[.int .i64 c, .slice pt ts.length tcap] 33)) none := grownBy_trans (World.grownBy_alloc _ _ _) (World.grownBy_alloc _ _ _)
  have HG0 := Lib.hid hgs
  have hb0 : ((w.alloc (.cells #[.slice p l.length cap, cv] 29)).alloc (.cells #[.int .i64 c, .slice pt ts.length tcap] 33)).heap[w.heap.size + 1]? = some (.cells #[.int .i64 c, .slice pt ts.length tcap] 33 (0, 0)) := by
    show ((w.heap.push _).push _)[w.heap.size + 1]? = _
    simp only [Array.getElem?_push, Array.size_push]
    rw [if_pos trivial]
  have HB0 := Lib.hid hb0
  have hsz : ((w.alloc (.cells #[.slice p l.length cap, cv] 29)).alloc (.cells #[.int .i64 c, .slice pt ts.length tcap] 33)).heap.size = w.heap.size + 2 := by simp
  have HSz := Lib.hid hsz
  clear hgs hb0 hsz
  go_enter Tryz.func15, Tryz.ntmps15
  go_wp2
  go_loopw [5, 11] (fun nv i wr => ∃ k : Nat, k ≤ l.length ∧ i = .int .i64 k ∧ Hid (((w.alloc (.cells #[.slice p l.length cap, cv] 29)).alloc (.cells #[.int .i64 c, .slice pt ts.length tcap] 33)).grownBy wr none) ∧
      Hid (wr.ownsRow (w.heap.size + 2) 9 1 nv (namesOf (l.take k)).length ((namesOf (l.take k)).map Value.string))) (fun _ i _ => l.length - (intOf i).toNat)
  case atStart => exact ⟨0, Nat.zero_le _, rfl, grownBy_refl _ _, World.ownsRow_nil _ _ _ _⟩
  case round =>
    obtain ⟨k, hk, rfl, HG, HO⟩ := hrel
    have HGw := Lib.hid (grownBy_trans HG0.out HG.out)
    by_cases hlt : k < l.length
    · have h0 := List.getElem?_eq_getElem hlt
      obtain ⟨b, off, rfl, h3, ⟨h4, h4'⟩, ⟨h5, h5'⟩, h6, h7, h8⟩ := (H.out k _ h0).kept HGw.out
      have HL := Lib.hid (namesOf_take h0)
      have hnl := Lib.hid (namesOf_len l k hk)
      have hsz := HG.out.size
      rw [HSz.out] at hsz
      generalize hn : (l[k]).1 = n at *
      generalize hlo : (l[k]).2.1 = lo at *
      generalize hhi : (l[k]).2.2 = hi' at *
      clear h0 hn hlo hhi
      go_wp2_with (first | (at_builtin; go_must (refine append_one_b rfl _ _ 37 rfl (w.heap.size + 2) 9 i0 (.string ByteArray.empty) 1 16 Tryz.underlying37 hi hz0 hz1 hz2 rfl (by decide) (by decide) _ _ _ [.string n] rfl (owns_kept HO.out (World.grownBy_alloc _ _ _)) (wr.heap.size + 1) (by simp) rfl rfl (by simp [Value.oneCell']) (by rw [hnl.out]; omega) (by simp; omega) ?_; intro v' w1 hown' hgrow' hlo2; have HO' := Lib.hid hown'; have HG' := Lib.hid hgrow'; have HLo := Lib.hid hlo2; clear hown' hgrow' hlo2)))
      go_roundw
      case rel => exact ⟨k + 1, by omega, by go_num, grown_own (grownBy_trans HG.out (World.grownBy_alloc _ _ _)) HG'.out (fun i hi => by rw [HSz.out]; exact HLo.out i hi), by show World.ownsRow _ _ _ _ _ _ _; rw [HL.out]; simpa using HO'.out⟩
      case measure => simp [intOf]; omega
    · obtain rfl : k = l.length := by omega
      have hb := heap_keep HB0.out HG.out (by simp)
      have hbox0 : wr.cell? ⟨w.heap.size + 1, 0, none⟩ = some (.int .i64 c) := by simp [World.cell?, hb]
      have hbox1 : wr.cell? ⟨w.heap.size + 1, 1, none⟩ = some (.slice pt ts.length tcap) := by simp [World.cell?, hb]
      have HN := Lib.hid (strs_of_owns (zs := namesOf l) (by have := HO.out; rwa [List.take_length] at this) (by simp [namesOf]; unfold maxLen; omega))
      obtain ⟨pn, ncap, hnv⟩ := own_form HO.out
      have HNv := Lib.hid hnv
      clear hb HO hnv
      go_wp2_with (first | (go_at_call 34; go_must (refine (around_any c ts (namesOf l) _ _ _ (HT.out.kept HGw.out) HN.out).mono ?_; rintro e w2 ⟨rfl, hg2⟩; have G2 := Lib.hid hg2; clear hg2)))
      go_ret
      exact ⟨rfl, grownBy_trans HGw.out G2.out⟩

end Go.Proofs.YtfilcaolgfghcaaGreat
