/-
 Values: numbers that a stream draws.
-/
import Derived.Test.YtjgddagladmgoaaSame
namespace Go.Proofs.Ytjgddagladmgoaa
open Go.RowKit

/-- The append of one element that was just laid in a block of its own; what the world becomes, told by its row. -/
theorem append_one_at {P : Program} {ops : Array Oper} {rest : List Oper} {o : Oper} {a : Act} {Q : Exit → Act → World → Prop} {w : World} (hgd : o.guard = none) (s x : Operand) (t : TypeId)
    (ho : o.op = .call { callee := .builtin .append, args := #[s, x], argTypes := #[t, t] })
    (base : Nat) (e : TypeId) (i : TypeInfo) (z : Value) (size bytes : Nat) (ht : P.underlying t = some (.slice e)) (hi : P.info? e = some i) (hz : i.zero = some z)
    (hsize : i.size = size) (hby : i.bytes = bytes) (hzs : z.cells.size = size) (hsz : 0 < size) (hbb : bytes ≤ 1000)
    (v : Value) (n : Nat) (xs news : List Value) (hs : a.eval s = v) (hown : w.ownsRow base e size v n xs)
    (hx : a.eval x = .slice (some ⟨w.heap.size, 0, none⟩) 1 1) (hl : news.length = size) (h1 : ∀ u ∈ news, u.oneCell' = true)
    (hn : n ≤ 1000000) (hbase : base ≤ w.heap.size)
    (h : ∀ v' w', w'.ownsRow base e size v' (n + 1) (xs ++ news) → w.grownBy w' v.ownBlock → (∀ k, v.ownBlock = some k → base ≤ k) → wpList P ops Q rest (a.put o.dst v') w') :
    wpList P ops Q (o :: rest) a (w.alloc (.cells news.toArray e)) := by
  refine wpList_append_own _ hgd s x t ho base e i z size bytes ht hi hz hsize hby hzs hsz v n xs hs (hown.alloc _) ⟨w.heap.size, 0, none⟩ 1 1 news hx (by omega) news_at h1 (by unfold maxLen; omega) ?_ (by simp; omega) ?_
  · have : (n + 1) * bytes ≤ 1000001 * 1000 := Nat.mul_le_mul (by omega) hbb
    omega
  · intro v' w' ho' hg _
    exact h v' w' ho' (grownBy_trans (World.grownBy_alloc _ _ _) hg) fun k hk => (hown.lt k hk).1

theorem owns_drawn {w w' : World} {B m : Nat} {base : Nat} {e : TypeId} {size : Nat} {v : Value} {n : Nat} {xs : List Value} (h : w.ownsRow base e size v n xs) (hd : Drawn B m w w') (hB : B < base) : w'.ownsRow base e size v n xs := by
  refine h.kept hd.1 ?_
  cases hb : v.ownBlock with
  | none => exact .inl rfl
  | some g =>
    refine .inr fun e => ?_
    have := (h.lt g hb).1
    have := Option.some.inj e
    omega

def small (x : Int) : Prop := -2000000000000 ≤ x ∧ x ≤ 2000000000000

/-- A list of numbers of the call's own, drawn. -/
def DrawnInts (B m : Nat) (w : World) (e : Ending) (w' : World) : Prop :=
  ∃ v xs, e = .returned v ∧ IntsAt w' v xs ∧ xs.length ≤ 1000 ∧ Drawn B m w w'

set_option maxRecDepth 100000 in
set_option maxHeartbeats 2000000 in
theorem values_any (B m n : Nat) (w : World) (hs : StreamAt w B m) (hm : m ≤ 1000000) (hn : n ≤ 100) :
    Calls Try.prog 5 #[.pointer (some ⟨B, 0, none⟩), .int .i64 n] w (DrawnInts B (m + n + 2) w) := by
  have hB := hs.lt
  have HS := Lib.hid hs
  clear hs
  obtain ⟨i0, hi, hz0, hz1, hz2⟩ := info_parts Try.infoInt
  go_enter Try.func5, Try.ntmps5
  go_wp2
  go_loopw [5, 7] (fun ov i wr => ∃ (k : Nat) (xs : List Int), k ≤ n ∧ i = .int .i64 k ∧ Hid (Drawn B (m + k) w wr) ∧ Hid (wr.ownsRow w.heap.size 3 1 ov k (xs.map (Value.int .i64))) ∧ Hid (xs.length = k) ∧ Hid (∀ x ∈ xs, small x)) (fun _ i _ => n - (intOf i).toNat)
  case atStart => exact ⟨0, [], Nat.zero_le _, rfl, ⟨grownBy_refl _ _, HS.out⟩, World.ownsRow_nil _ _ _ _, rfl, fun x hx => by cases hx⟩
  case round =>
    obtain ⟨k, xs, hk, rfl, HD, HO, HL, HX⟩ := hrel
    by_cases hlt : k < n
    · go_wp2_with (first
        | (go_at_call 20; refine (pick_lit B (m + k) [0, 1, 2, 3, 4, -1] _ _ HD.out.2 (by omega) (by simp) (by simp)).mono ?_; rintro e w1 ⟨z, hz, rfl, hd1⟩; have D1 := Lib.hid hd1; have Z1 := Lib.hid hz; clear hd1 hz)
        | (at_builtin; refine append_one_at rfl _ _ 22 rfl w.heap.size 3 i0 (.int .i64 0) 1 8 Try.underlying22 hi hz0 hz1 hz2 rfl (by decide) (by decide) _ k _ [.int .i64 z] rfl (owns_drawn HO.out D1.out hB) rfl rfl (by simp [Value.oneCell']) (by omega) (Nat.le_trans HD.out.1.size D1.out.1.size) ?_; intro v' w2 hown' hg2 hr2; have HO' := Lib.hid hown'; have HG' := Lib.hid hg2; have HR' := Lib.hid hr2; clear hown' hg2 hr2))
      have hl := HL.out
      go_roundw
      case rel =>
        refine ⟨k + 1, xs ++ [z], by omega, by go_num, ((HD.out.trans D1.out).own HG'.out hB HR'.out).more (by omega), ?_, ?_, ?_⟩
        · have h := HO'.out
          change World.ownsRow _ _ _ _ _ _ _
          rw [List.map_append]
          exact h
        · show _ = _
          simp [hl]
        · intro x hx
          rcases List.mem_append.1 hx with hx | hx
          · exact HX.out x hx
          · obtain rfl := List.mem_singleton.1 hx
            have := Z1.out
            simp at this
            exact ⟨by omega, by omega⟩
      case measure => simp [intOf]; omega
    · obtain rfl : k = n := by omega
      go_wp2_with (first
        | (go_at_call 21; refine (flip_any B (m + k) 12 _ HD.out.2 (by omega) (by omega) (by omega)).mono ?_; rintro e w1 ⟨b, rfl, hd1⟩; have D1 := Lib.hid hd1; clear hd1)
        | (go_at_call 20; refine (pick_lit B (m + k + 1) [0, 1000001] _ _ D1.out.2 (by omega) (by simp) (by simp)).mono ?_; rintro e w2 ⟨z, hz, rfl, hd2⟩; have D2 := Lib.hid hd2; have Z2 := Lib.hid hz; clear hd2 hz)
        | (at_builtin; refine append_one_at rfl _ _ 22 rfl w.heap.size 3 i0 (.int .i64 0) 1 8 Try.underlying22 hi hz0 hz1 hz2 rfl (by decide) (by decide) _ k _ [.int .i64 z] rfl (owns_drawn (owns_drawn HO.out D1.out hB) D2.out hB) rfl rfl (by simp [Value.oneCell']) (by omega) (Nat.le_trans HD.out.1.size (Nat.le_trans D1.out.1.size D2.out.1.size)) ?_; intro v' w3 hown' hg2 hr2; have HO' := Lib.hid hown'; have HG' := Lib.hid hg2; have HR' := Lib.hid hr2; clear hown' hg2 hr2))
      · have hl := HL.out
        have hz := Z2.out
        simp at hz
        have hall : ∀ x ∈ xs ++ [z], small x := by
          intro x hx
          rcases List.mem_append.1 hx with hx | hx
          · exact HX.out x hx
          · obtain rfl := List.mem_singleton.1 hx
            exact ⟨by omega, by omega⟩
        go_ret
        refine ⟨_, xs ++ [z], rfl, ints_of_owns (base := w.heap.size) (e := 3) ?_ (by simp; omega) (fun x hx => by have := hall x hx; unfold small at this; omega), by simp; omega, (((HD.out.trans D1.out).trans D2.out).own HG'.out hB HR'.out).more (by omega)⟩
        have h := HO'.out
        rw [List.map_append, List.length_append, hl]
        exact h
      · have hl := HL.out
        go_ret
        refine ⟨_, xs, rfl, ints_of_owns (base := w.heap.size) (e := 3) ?_ (by omega) (fun x hx => by have := HX.out x hx; unfold small at this; omega), by omega, (HD.out.trans D1.out).more (by omega)⟩
        have h := owns_drawn HO.out D1.out hB
        rw [hl]
        exact h

end Go.Proofs.Ytjgddagladmgoaa
