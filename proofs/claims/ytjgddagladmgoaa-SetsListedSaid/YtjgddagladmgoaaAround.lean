/-
 The errors of a form over some variables.
-/
import Derived.Test.YtjgddagladmgoaaForm
namespace Go.Proofs.Ytjgddagladmgoaa
open Go.RowKit

def termsIn (names : List ByteArray) (ts : List (ByteArray × Int)) : Bool := ts.all fun t => containsB names t.1
def aroundErr (names : List ByteArray) (f : Int × List (ByteArray × Int)) : Int := if formErr f.1 f.2 == 0 then (if termsIn names f.2 then 0 else 16) else formErr f.1 f.2

theorem termsIn_snoc {names : List ByteArray} {ts : List (ByteArray × Int)} {k : Nat} {t : ByteArray × Int} (h : ts[k]? = some t) :
    termsIn names (ts.take (k + 1)) = (termsIn names (ts.take k) && containsB names t.1) := by
  obtain ⟨hk, rfl⟩ := List.getElem?_eq_some_iff.1 h
  unfold termsIn
  rw [List.take_succ_eq_append_getElem hk, List.all_append]
  simp

theorem termsIn_stop {names : List ByteArray} {ts : List (ByteArray × Int)} {k : Nat} {t : ByteArray × Int} (h : ts[k]? = some t) (hf : containsB names t.1 = false) : termsIn names ts = false := by
  obtain ⟨hk, rfl⟩ := List.getElem?_eq_some_iff.1 h
  rw [Bool.eq_false_iff]
  intro ha
  have := List.all_eq_true.1 ha _ (List.getElem_mem hk)
  rw [hf] at this
  exact absurd this (by simp)

set_option maxHeartbeats 1000000 in
theorem around_any (c : Int) (ts : List (ByteArray × Int)) (names : List ByteArray) (tv nv : Value) (w : World) (ht : TermsAt w tv ts) (hn : StrsAt w nv names) :
    Calls Try.prog 29 #[.agg #[.int .i64 c, tv], nv] w (Gives (.int .i64 (aroundErr names (c, ts))) w) := by
  obtain ⟨p, cap, rfl, hl, hc⟩ := ht
  have H := Lib.hid hc
  have HN := Lib.hid hn
  have hl' := hl
  unfold maxLen at hl'
  clear hc hn
  cases hf : (formErr c ts == 0)
  · have hf' : (formErr c ts == 0) = false := hf
    go_enter Try.func29, Try.ntmps29
    go_wp2_with (first | (go_at_call 50; refine (formFault_at c ts p cap _ hl (fun j t hj => (H.out j t hj).kept (World.grownBy_alloc _ _ _))).mono ?_; rintro e w' ⟨rfl, hg1⟩; have G1 := Lib.hid hg1; clear hg1))
    go_ret
    exact ⟨ret_i64 (by simp only [aroundErr, hf']; rfl), grownBy_trans (World.grownBy_alloc _ _ _) G1.out⟩
  · have hf' := Lib.hid hf
    have hf2 : formErr c ts = 0 := by simpa using hf
    clear hf
    go_enter Try.func29, Try.ntmps29
    go_wp2_with (first | (go_at_call 50; refine (formFault_at c ts p cap _ hl (fun j t hj => (H.out j t hj).kept (World.grownBy_alloc _ _ _))).mono ?_; rintro e w' ⟨rfl, hg1⟩; have q1 : w'.cell? ⟨w.heap.size, 1, none⟩ = some (.slice p ts.length cap) := hg1.cell (by simp) (by simp); have G1 := Lib.hid hg1; clear hg1))
    have HW : Hid (w.grownBy w' none) := grownBy_trans (World.grownBy_alloc _ _ _) G1.out
    have HA := Lib.hid (show aroundErr names (c, ts) = if termsIn names ts then 0 else 16 by simp only [aroundErr, hf'.out]; rfl)
    clear G1 q1 hf2 hf'
    go_loopw [16] (fun i wr => ∃ k : Nat, k ≤ ts.length ∧ i = .int .i64 k ∧ Hid (termsIn names (ts.take k) = true) ∧ Hid (w.grownBy wr none)) (fun i _ => ts.length - (intOf i).toNat)
    case atStart => exact ⟨0, Nat.zero_le _, rfl, rfl, HW⟩
    case round =>
      obtain ⟨k, hk, rfl, HR, HG⟩ := hrel
      by_cases hlt : k < ts.length
      · have h0 := List.getElem?_eq_getElem hlt
        obtain ⟨b, off, rfl, h3, h4, h5, h6, h7⟩ := (H.out k _ h0).kept HG.out
        have HS := Lib.hid (termsIn_snoc (names := names) h0)
        have HT := fun h => termsIn_stop (names := names) h0 h
        generalize hn : (ts[k]).1 = n at *
        generalize hz : (ts[k]).2 = z at *
        have HT := Lib.hid HT
        clear h0 hn hz
        go_wp2_with (first | (go_at_call 27; refine (contains_any _ names _ _ (HN.out.kept (grownBy_trans HG.out (World.grownBy_alloc _ _ _)))).mono ?_; rintro e w'' ⟨rfl, rfl⟩))
        · have he : containsB names n = false := by simpa using ‹(!containsB names n) = true›
          go_ret
          exact ⟨ret_i64 (by rw [HA.out, HT.out he]; rfl), grownBy_trans HG.out (World.grownBy_alloc _ _ _)⟩
        · have he : containsB names n = true := by simpa using ‹(!containsB names n) = false›
          go_roundw
          case rel => exact ⟨k + 1, by omega, by go_num, by show _ = _; rw [HS.out, HR.out, he]; rfl, grownBy_trans HG.out (World.grownBy_alloc _ _ _)⟩
          case measure => simp [intOf]; omega
      · obtain rfl : k = ts.length := by omega
        go_wp2
        go_ret
        exact ⟨ret_i64 (by rw [HA.out, ← List.take_length (l := ts), HR.out]; rfl), HG.out⟩

end Go.Proofs.Ytjgddagladmgoaa
