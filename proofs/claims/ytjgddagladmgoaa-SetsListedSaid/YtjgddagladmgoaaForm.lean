/-
 The errors of a form: wbref1.FormFault and nest.CheckForm say the same of every form.
-/
import Derived.Test.YtjgddagladmgoaaNames
namespace Go.Proofs.Ytjgddagladmgoaa
open Go.RowKit

/-- A term of a form, as it lies in memory: the j-th of a slice that begins at p. -/
def TermAt (w : World) (p : Option Addr) (t : ByteArray × Int) (j : Nat) : Prop :=
  ∃ b off, p = some ⟨b, off, none⟩ ∧ t.1.size ≤ maxLen ∧ -9223372036854775808 ≤ t.2 ∧ t.2 ≤ 9223372036854775807 ∧
      w.cell? ⟨b, off + j * 2, none⟩ = some (.string t.1) ∧ w.cell? ⟨b, off + j * 2 + 1, none⟩ = some (.int .i64 t.2)

/-- The terms of a form, as they lie in memory. -/
def TermsAt (w : World) (v : Value) (ts : List (ByteArray × Int)) : Prop :=
  ∃ p cap, v = .slice p ts.length cap ∧ ts.length ≤ maxLen ∧ ∀ j t, ts[j]? = some t → TermAt w p t j

theorem TermAt.kept {w w' : World} {p : Option Addr} {t : ByteArray × Int} {j : Nat} (h : TermAt w p t j) (hg : w.grownBy w' none) : TermAt w' p t j := by
  obtain ⟨b, off, hp, h1, h2, h3, h4, h5⟩ := h
  exact ⟨b, off, hp, h1, h2, h3, hg.cell h4 (by simp), hg.cell h5 (by simp)⟩

theorem TermsAt.kept {w w' : World} {v : Value} {ts : List (ByteArray × Int)} (h : TermsAt w v ts) (hg : w.grownBy w' none) : TermsAt w' v ts := by
  obtain ⟨p, cap, hv, hl, hc⟩ := h
  exact ⟨p, cap, hv, hl, fun j t hj => (hc j t hj).kept hg⟩

def leB (a b : ByteArray) : Bool := Op.bytesLess a.toList b.toList || a.toList == b.toList
def coefBad (z : Int) : Bool := z == 0 || !inB z (-1000) 1000
def termsErr : ByteArray → List (ByteArray × Int) → Int
  | _, [] => 0
  | last, t :: r => if nameB t.1 then (if coefBad t.2 then 1 else if leB t.1 last then 7 else termsErr t.1 r) else 5
def formErr (c : Int) (ts : List (ByteArray × Int)) : Int := if inB c (-1000000) 1000000 then (if 12 < ts.length then 2 else termsErr ByteArray.empty ts) else 1

theorem termsErr_drop {ts : List (ByteArray × Int)} {k : Nat} {t : ByteArray × Int} (last : ByteArray) (h : ts[k]? = some t) :
    termsErr last (ts.drop k) = if nameB t.1 then (if coefBad t.2 then 1 else if leB t.1 last then 7 else termsErr t.1 (ts.drop (k + 1))) else 5 := by
  obtain ⟨hk, rfl⟩ := List.getElem?_eq_some_iff.1 h
  rw [List.drop_eq_getElem_cons hk]
  rfl

theorem ret_i64 {a b : Int} (h : a = b) : Ending.returned (.int .i64 a) = .returned (.int .i64 b) := by rw [h]

set_option maxHeartbeats 1000000 in
theorem formFault_at (c : Int) (ts : List (ByteArray × Int)) (p : Option Addr) (cap : Nat) (w : World) (hl : ts.length ≤ maxLen)
    (hc : ∀ j t, ts[j]? = some t → TermAt w p t j) :
    Calls Try.prog 50 #[.agg #[.int .i64 c, .slice p ts.length cap]] w (Gives (.int .i64 (formErr c ts)) w) := by
  unfold maxLen at hl
  have H := Lib.hid hc
  clear hc
  cases hcc : inB c (-1000000) 1000000
  · go_enter Try.func50, Try.ntmps50
    go_wp2_with (first | (go_at_call 28; refine (in_any _ _ _ _).mono ?_; rintro e w' ⟨rfl, rfl⟩))
    go_ret
    exact ⟨ret_i64 (by simp [formErr, hcc]), World.grownBy_alloc _ _ _⟩
  by_cases hll : 12 < ts.length
  · go_enter Try.func50, Try.ntmps50
    go_wp2_with (first | (go_at_call 28; refine (in_any _ _ _ _).mono ?_; rintro e w' ⟨rfl, rfl⟩))
    go_ret
    exact ⟨ret_i64 (by simp [formErr, hcc, hll]), World.grownBy_alloc _ _ _⟩
  have HF := Lib.hid (show formErr c ts = termsErr ByteArray.empty ts by simp [formErr, hcc, hll])
  go_enter Try.func50, Try.ntmps50
  go_wp2_with (first | (go_at_call 28; refine (in_any _ _ _ _).mono ?_; rintro e w' ⟨rfl, rfl⟩))
  go_loopw [3, 17] (fun last i wr => ∃ k : Nat, ∃ s : ByteArray, k ≤ ts.length ∧ i = .int .i64 k ∧ last = .string s ∧ Hid (termsErr s (ts.drop k) = termsErr ByteArray.empty ts) ∧ w.grownBy wr none) (fun _ i _ => ts.length - (intOf i).toNat)
  case atStart => exact ⟨0, ByteArray.empty, Nat.zero_le _, rfl, rfl, rfl, World.grownBy_alloc _ _ _⟩
  case round =>
    obtain ⟨k, s, hk, rfl, rfl, HR, hg⟩ := hrel
    by_cases hlt : k < ts.length
    · have h0 := List.getElem?_eq_getElem hlt
      obtain ⟨b, off, rfl, h3, h4, h5, h6, h7⟩ := (H.out k _ h0).kept hg
      have HS := Lib.hid (termsErr_drop s h0)
      generalize hn : (ts[k]).1 = n at *
      generalize hz : (ts[k]).2 = z at *
      have G := Lib.hid hg
      clear hg h0 hn hz
      go_wp2_with (first | (go_at_call 28; refine (in_any _ _ _ _).mono ?_; rintro e w' ⟨rfl, rfl⟩) | (go_at_call 26; refine (name_any _ _ ‹_›).mono ?_; rintro e w' ⟨rfl, hg1⟩; have q0 : w'.cell? ⟨wr.heap.size, 0, none⟩ = some (.string n) := hg1.cell (by simp) (by simp); have q1 : w'.cell? ⟨wr.heap.size, 1, none⟩ = some (.int .i64 z) := hg1.cell (by simp) (by simp); have G1 := Lib.hid hg1; clear hg1))
      all_goals first
        | (go_ret
           exact ⟨ret_i64 (by rw [HF.out, ← HR.out, HS.out]; clear HF HR HS H G G1; simp_all [coefBad, leB]), grownBy_trans G.out (grownBy_trans (World.grownBy_alloc _ _ _) G1.out)⟩)
        | (go_roundw
           case rel => exact ⟨k + 1, n, by omega, by go_num, rfl, by show _ = _; rw [← HR.out, HS.out]; clear HF HR HS H G G1; simp_all [coefBad, leB], grownBy_trans G.out (grownBy_trans (World.grownBy_alloc _ _ _) G1.out)⟩
           case measure => simp [intOf]; omega)
    · obtain rfl : k = ts.length := by omega
      go_wp2
      go_ret
      exact ⟨ret_i64 (by rw [HF.out, ← HR.out]; simp [termsErr]), hg⟩

end Go.Proofs.Ytjgddagladmgoaa
