/-
 What a name is: wbref1.Name and nest.isName say the same of every string.
-/
import Derived.Test.YtjgddagladmgoaaDraws
import Derived.WalkLawsBesides
import Derived.Lib.Hide
namespace Go.Proofs.Ytjgddagladmgoaa
open Go.RowKit

/-- A call that only computes: what it gives; the world stays. -/
def Ret (v : Value) (w : World) (e : Ending) (w' : World) : Prop := e = .returned v ∧ w = w'
/-- A call that makes memory of its own: what it gives; nothing that was there turns. -/
def Gives (v : Value) (w : World) (e : Ending) (w' : World) : Prop := e = .returned v ∧ w.grownBy w' none
theorem ret_bool {a b : Bool} (h : a = b) : Ending.returned (.bool a) = .returned (.bool b) := by rw [h]
theorem ret_int {k : IntKind} {a b : Int} (h : a = b) : Ending.returned (.int k a) = .returned (.int k b) := by rw [h]

def inB (n low high : Int) : Bool := decide (low ≤ n ∧ n ≤ high)

set_option maxHeartbeats 400000 in
theorem in_any (n low high : Int) (w : World) :
    Calls Try.prog 28 #[.int .i64 n, .int .i64 low, .int .i64 high] w (Ret (.bool (inB n low high)) w) := by
  go_enter Try.func28, Try.ntmps28
  go_wp2
  all_goals
    go_ret
    exact ⟨ret_bool (by simp [inB]; try omega), rfl⟩

def containsB (zs : List ByteArray) (x : ByteArray) : Bool := zs.any fun y => x.toList == y.toList

def IndexOf (zs : List ByteArray) (x : ByteArray) (w : World) (e : Ending) (w' : World) : Prop := ∃ k : Int, decide (0 ≤ k) = containsB zs x ∧ e = .returned (.int .i64 k) ∧ w = w'

theorem containsB_of {zs : List ByteArray} {x : ByteArray} {k : Nat} (h : k < zs.length) (e : (x.toList == zs[k].toList) = true) : containsB zs x = true :=
  List.any_eq_true.2 ⟨zs[k], List.getElem_mem h, e⟩

theorem containsB_snoc (zs : List ByteArray) (x : ByteArray) (k : Nat) (h : k < zs.length) : containsB (zs.take (k + 1)) x = (containsB (zs.take k) x || x.toList == zs[k].toList) := by
  unfold containsB
  rw [List.take_succ_eq_append_getElem h, List.any_append]
  simp

/-- Strings, as they lie in memory. -/
def StrsAt (w : World) (v : Value) (zs : List ByteArray) : Prop :=
  ∃ p cap, v = .slice p zs.length cap ∧ zs.length ≤ maxLen ∧ ∀ j s, zs[j]? = some s → ∃ b off, p = some ⟨b, off, none⟩ ∧ w.cell? ⟨b, off + j, none⟩ = some (.string s)

theorem StrsAt.kept {w w' : World} {v : Value} {zs : List ByteArray} (h : StrsAt w v zs) (hg : w.grownBy w' none) : StrsAt w' v zs := by
  obtain ⟨p, cap, hv, hl, hc⟩ := h
  refine ⟨p, cap, hv, hl, fun j s hj => ?_⟩
  obtain ⟨b, off, hp, h⟩ := hc j s hj
  exact ⟨b, off, hp, hg.cell h (by simp)⟩

set_option maxHeartbeats 400000 in
theorem index_any (v : Value) (zs : List ByteArray) (x : ByteArray) (w : World) (hv : StrsAt w v zs) :
    Calls Try.prog 49 #[v, .string x] w (IndexOf zs x w) := by
  obtain ⟨p, cap, rfl, hl, hc⟩ := hv
  unfold maxLen at hl
  have HC := Lib.hid hc
  clear hc
  go_enter Try.func49, Try.ntmps49
  go_wp2
  go_loop [8] (fun i => ∃ k : Nat, k ≤ zs.length ∧ i = .int .i64 k ∧ Hid (containsB (zs.take k) x = false)) (fun i => zs.length - (intOf i).toNat)
  case atStart => exact ⟨0, Nat.zero_le _, rfl, rfl⟩
  case round =>
    obtain ⟨k, hk, rfl, H⟩ := hrel
    by_cases hlt : k < zs.length
    · obtain ⟨b, off, rfl, hcell⟩ := HC.out k _ (List.getElem?_eq_getElem hlt)
      have HS := Lib.hid (containsB_snoc zs x k hlt)
      go_wp2
      · have he : (x.toList == zs[k].toList) = true := by assumption
        go_ret
        exact ⟨k, by rw [containsB_of hlt he]; simp, rfl, rfl⟩
      · have he : (x.toList == zs[k].toList) = false := by assumption
        go_round
        case rel => exact ⟨k + 1, by omega, by go_num, by show _ = _; rw [HS.out, H.out, he]; rfl⟩
        case measure => simp [intOf]; omega
    · go_wp2
      go_ret
      exact ⟨-1, by rw [show zs.take k = zs from List.take_of_length_le (by omega)] at H; rw [H.out]; rfl, rfl, rfl⟩

set_option maxHeartbeats 400000 in
theorem contains_any (v : Value) (zs : List ByteArray) (x : ByteArray) (w : World) (hv : StrsAt w v zs) :
    Calls Try.prog 27 #[v, .string x] w (Ret (.bool (containsB zs x)) w) := by
  have H := Lib.hid hv
  clear hv
  go_enter Try.func27, Try.ntmps27
  go_wp2_with (go_at_call 49; refine (index_any v zs x _ H.out).mono ?_; rintro e w' ⟨k, hk, rfl, rfl⟩; have HK := Lib.hid hk; clear hk)
  go_ret
  exact ⟨ret_bool HK.out, rfl⟩

def resL : List ByteArray := [⟨#[97, 114, 114, 97, 121]⟩, ⟨#[102, 111, 114]⟩, ⟨#[105, 102]⟩, ⟨#[109, 97, 120]⟩, ⟨#[109, 105, 110]⟩]

theorem resB_eq (s : ByteArray) : containsB resL s = (s.toList == [97, 114, 114, 97, 121] || (s.toList == [102, 111, 114] || (s.toList == [105, 102] || (s.toList == [109, 97, 120] || s.toList == [109, 105, 110])))) := by
  simp only [containsB, resL, List.any_cons, List.any_nil, Bool.or_false, ByteArray.toList_eq]

set_option maxHeartbeats 400000 in
theorem isReserved_any (s : ByteArray) (w : World) :
    Calls Try.prog 74 #[.string s] w (Ret (.bool (containsB resL s)) w) := by
  have H := Lib.hid (resB_eq s)
  go_enter Try.func74, Try.ntmps74
  go_wp2
  all_goals try (exfalso; simp_all; done)
  all_goals
    go_ret
    exact ⟨ret_bool (by rw [H.out]; simp [*]), rfl⟩

def letterB (c : Int) : Bool := decide (97 ≤ c ∧ c ≤ 122)
def digitB (c : Int) : Bool := decide (48 ≤ c ∧ c ≤ 57)
def nameCharB (c : Int) : Bool := letterB c || digitB c || c == 95

set_option maxHeartbeats 400000 in
theorem isLetter_any (n : Int) (w : World) : Calls Try.prog 75 #[.int .u8 n] w (Ret (.bool (letterB n)) w) := by
  go_enter Try.func75, Try.ntmps75
  go_wp2
  all_goals
    go_ret
    exact ⟨ret_bool (by simp [letterB]; try omega), rfl⟩

set_option maxHeartbeats 400000 in
theorem isDigit_any (n : Int) (w : World) : Calls Try.prog 76 #[.int .u8 n] w (Ret (.bool (digitB n)) w) := by
  go_enter Try.func76, Try.ntmps76
  go_wp2
  all_goals
    go_ret
    exact ⟨ret_bool (by simp [digitB]; try omega), rfl⟩

end Go.Proofs.Ytjgddagladmgoaa
