/-
 A region that draws its order: a head in which a condition on the world is held, and a tail that waits for the whole head. Behind the tail's operations the condition need not be shown. Regions that draw their order, stage by stage: several operations may come up; what each stage asks is stated once. The maps of the reference's Tight: the least numbers, and what is done, by the words of what stands beside the numbers. Conditions in a list of the call's own; a list of conditions, cloned. Conditions cloned; conditions appended to a row of the call's own.
-/
import Derived.OrdersHeld
import Derived.StillTail
import Derived.RegionTactic
import Derived.Deep.RegionHeld
import Derived.Deep.DeepMust
import Derived.Deep.AppendLies
import Derived.Test.YtgeklmigfhhpfaaGreatDoorQ10
import Derived.Test.YtgeklmigfhhpfaaGreatDoorQ15
import Derived.Test.YtgeklmigfhhpfaaGreatDoorQ16
import Derived.Test.YtgeklmigfhhpfaaGreatDoorQ26
import Derived.Test.YtgeklmigfhhpfaaGreatDoorQ27
namespace Go.Proofs.YtgeklmigfhhpfaaGreatDoor
open Go
section
variable {P : Program} {ops : Array Oper} {Q : Exit → Act → World → Prop} {md : Region.Mode} {S : World → Prop} {n : Nat} {L : Array Bool → Act → World → Prop}
def HeadH (P : Program) (md : Region.Mode) (ops : Array Oper) (Q : Exit → Act → World → Prop) (S : World → Prop) (n : Nat) (L : Array Bool → Act → World → Prop) : Nat → Array Bool → Act → World → Prop
 | 0, listed, a, w => L listed a w
 | f + 1, listed, a, w => Region.ready md ops listed ≠ [] ∧ ∀ i ∈ Region.ready md ops listed, i < n ∧ wpOp P ops Q i (fun a' w' => S w' ∧ HeadH P md ops Q S n L f (listed.setIfInBounds i true) a' w') a w
theorem any_of_head {g : Nat} (hL : ∀ listed a w, L listed a w → wpAny P md ops Q g listed a w) :
  ∀ (f : Nat) (listed : Array Bool) (a : Act) (w : World), HeadH P md ops Q S n L f listed a w → wpAny P md ops Q (f + g) listed a w
 | 0, listed, a, w, h => by rw [Nat.zero_add]; exact hL _ _ _ h
 | f + 1, listed, a, w, h => by
   rw [show f + 1 + g = (f + g) + 1 by omega]
   exact ⟨fun h0 => absurd h0 h.1, fun i hi => wpOp_mono (fun a' w' h' => any_of_head hL f _ a' w' h'.2) (h.2 i hi).2⟩
theorem head_first {i : Nat} {oi : Oper} {v : Value} (hi : ops[i]? = some oi) (hsel : ∀ (j : Nat) (o : Oper) cs b, ops[j]? = some o → o.op ≠ .select cs b)
  (hs : Region.sinkB md ops n = true) (hc : Region.chainB md ops n = true) (hn : n < ops.size) (hin : i < n)
  (hQ : ∀ c a w, Q (.panic c) (a.put oi.dst v) w → Q (.panic c) a w) (hLr : ∀ listed a w, L listed a w → ∀ j ∈ Region.ready md ops listed, n ≤ j) :
  ∀ (f : Nat) (listed : Array Bool) (a : Act) (w : World), HeadInv md ops n listed →
    (∀ j oj, ops[j]? = some oj → j ≠ i → listed.getD j true = false → (∀ e ∈ oj.after, Region.binds md e = true → e.on ≠ i) → oi.apart ops oj = true) →
    i ∈ Region.ready md ops listed → YieldsIf P ops S oi v a → S w →
    HeadH P md ops Q S n L f (listed.setIfInBounds i true) (a.put oi.dst v) w → HeadH P md ops Q S n L (f + 1) listed a w := by
 intro f
 induction f with
 | zero =>
   intro listed a w inv _ hr hy hS H
   refine ⟨fun h => (by rw [h] at hr; cases hr), fun j hj => ?_⟩
   have hun := (mem_ready.1 hr).1
   by_cases hji : j = i
   · subst hji
     exact ⟨hin, hy.wpOp hi hS ⟨hS, H⟩⟩
   · have hjn : j < n := by
      rcases Nat.lt_or_ge j n with h | h
      · exact h
      · exact absurd hj (tail_waits hs hc hn inv (n - i) i rfl hin hun j h)
     have h1 := hLr _ _ _ H j (ready_mono hj hji)
     omega
 | succ f ih =>
   intro listed a w inv hfree hr hy hS H
   refine ⟨fun h => (by rw [h] at hr; cases hr), fun j hj => ?_⟩
   have hun := (mem_ready.1 hr).1
   by_cases hji : j = i
   · subst hji
     exact ⟨hin, hy.wpOp hi hS ⟨hS, H⟩⟩
   · have hjn : j < n := by
      rcases Nat.lt_or_ge j n with h | h
      · exact h
      · exact absurd hj (tail_waits hs hc hn inv (n - i) i rfl hin hun j h)
     have h1 := (H.2 j (ready_mono hj hji)).2
     obtain ⟨hjun, oj, hoj, hall⟩ := mem_ready.1 hj
     have hnot : ∀ e ∈ oj.after, Region.binds md e = true → e.on ≠ i := fun e he hb heq => by
      have h2 := hall e he hb
      rw [heq, getD_both hun] at h2
      cases h2
     have h2 := wpOp_putIf hoj (hfree j oj hoj hji hjun hnot) (fun cs b => hsel i oi cs b hi) (fun cs b => hsel j oj cs b hoj) hQ hy h1
     have hfree' : ∀ k ok, ops[k]? = some ok → k ≠ i → (listed.setIfInBounds j true).getD k true = false →
       (∀ e ∈ ok.after, Region.binds md e = true → e.on ≠ i) → oi.apart ops ok = true := fun k ok hk hki hun' hno => by
      refine hfree k ok hk hki ?_ hno
      by_cases hjk : j = k
      · subst hjk
        exact hjun
      · rw [getD_set_ne true hjk] at hun'
        exact hun'
     refine ⟨hjn, wpOp_mono (fun a' w' h3 => ⟨h3.2.1, ih (listed.setIfInBounds j true) a' w' (inv.set hj hjn) hfree' (ready_mono hr (Ne.symm hji)) h3.1 h3.2.1 ?_⟩) h2⟩
     rw [Array.setIfInBounds_comm _ _ hji]
     exact h3.2.2
structure LateB (md : Region.Mode) (ops : Array Oper) (n : Nat) : Prop where
 sel : Region.noSelect ops = true
 sink : Region.sinkB md ops n = true
 chain : Region.chainB md ops n = true
 lt : n < ops.size
def TailL (P : Program) (md : Region.Mode) (ops : Array Oper) (Q : Exit → Act → World → Prop) (n : Nat) (listed : Array Bool) (a : Act) (w : World) : Prop :=
 Region.seqB md ops (ops.size - n) n listed = true ∧ wpList P ops Q (ops.toList.drop n) a w
def LateH (P : Program) (md : Region.Mode) (ops : Array Oper) (Q : Exit → Act → World → Prop) (S : World → Prop) (n f : Nat) (listed : Array Bool) (a : Act) (w : World) : Prop :=
 HeadInv md ops n listed → HeadH P md ops Q S n (TailL P md ops Q n) f listed a w
theorem late_take {i f : Nat} {oi : Oper} {v : Value} {listed : Array Bool} {a : Act} {w : World} (hB : LateB md ops n) (hi : ops[i]? = some oi) (hin : decide (i < n) = true)
  (hf : Region.free md ops listed i = true) (hr : (Region.ready md ops listed).contains i = true)
  (hQ : ∀ c a w, Q (.panic c) (a.put oi.dst v) w → Q (.panic c) a w) (hy : YieldsIf P ops S oi v a) (hS : S w)
  (h : LateH P md ops Q S n f (listed.setIfInBounds i true) (a.put oi.dst v) w) : LateH P md ops Q S n (f + 1) listed a w := fun inv => by
 have hr' : i ∈ Region.ready md ops listed := by simpa using hr
 have hin' := of_decide_eq_true hin
 exact head_first hi (Region.noSelect_spec hB.sel) hB.sink hB.chain hB.lt hin' hQ (fun listed a w hL => seqB_ready hL.1) f listed a w inv (Region.free_spec hi hf) hr' hy hS (h (inv.set hr' hin'))
theorem late_one {i f : Nat} {oi : Oper} {listed : Array Bool} {a : Act} {w : World} (hi : ops[i]? = some oi) (hin : decide (i < n) = true) (hr : Region.ready md ops listed = [i])
  (h : ∀ K' : Act → World → Prop, (∀ a w, S w → LateH P md ops Q S n f (listed.setIfInBounds i true) a w → K' a w) → if Region.wanted oi (yielded ops a.tmps) = true then Oper.wp P oi a w K' Q else K' (a.put oi.dst undef) w) :
  LateH P md ops Q S n (f + 1) listed a w := fun inv => by
 have hin' := of_decide_eq_true hin
 refine ⟨by rw [hr]; simp, fun j hj => ?_⟩
 rw [hr] at hj
 obtain rfl : j = i := by simpa using hj
 have hr' : j ∈ Region.ready md ops listed := by rw [hr]; simp
 refine ⟨hin', wpOp_step hi (fun K' hK => h K' (fun a w hS hW => hK a w ⟨hS, hW (inv.set hr' hin')⟩))⟩
theorem late_done {listed : Array Bool} {a : Act} {w : World} (hq : Region.seqB md ops (ops.size - n) n listed = true) (h : wpList P ops Q (ops.toList.drop n) a w) : LateH P md ops Q S n 0 listed a w := fun _ => ⟨hq, h⟩
theorem region_late {id : Nat} {a : Act} {w : World} (hm : P.follows .mixedOrders = true) (hB : LateB .any ops n)
  (h : LateH P .any ops Q S n n (Array.replicate ops.size false) a w.drew) : (Code.region id ops true).wp P Q a w := by
 refine wp_region_any hm ?_
 have inv0 : HeadInv .any ops n (Array.replicate ops.size false) :=
  ⟨by simp, fun j oj _ hl => (by rw [getD_replicate_false] at hl; cases hl), fun t _ ht => getD_in (by simpa using ht) (getD_replicate_false _ _)⟩
 have H := h inv0
 have hlt := hB.lt
 have hsz : (ops.toList.drop n).length = ops.size - n := by simp
 have := any_of_head (Q := Q) (g := ops.size - n) (fun listed a w hL => by
  have h2 := wpAny_of_seq (md := .any) (Q' := Q) (ops.toList.drop n) n listed a w (fun j => by rw [List.getElem?_drop, Array.getElem?_toList]) (by rw [hsz]; exact hL.1) hL.2
  rwa [hsz] at h2) _ _ _ _ H
 rw [show n + (ops.size - n) = ops.size by omega] at this
 exact this
end
end Go.Proofs.YtgeklmigfhhpfaaGreatDoor
namespace Go.Proofs.YtgeklmigfhhpfaaGreatDoor
open Go Go.RowKit Go.Maps Go.WideMaps
section
variable {P : Program} {ops : Array Oper} {Q : Exit → Act → World → Prop} {md : Region.Mode} {S : World → Prop} {n : Nat}
def OpTo (P : Program) (ops : Array Oper) (Q : Exit → Act → World → Prop) (o : Oper) (a : Act) (w : World) (K : Act → World → Prop) : Prop :=
 if Region.wanted o (yielded ops a.tmps) = true then Oper.wp P o a w K Q else K (a.put o.dst undef) w
def StageTo (P : Program) (md : Region.Mode) (ops : Array Oper) (Q : Exit → Act → World → Prop) (S : World → Prop) (n f : Nat) (listed : Array Bool) (a : Act) (w : World) (i : Nat) : Prop :=
 i < n ∧ ∃ oi, ops[i]? = some oi ∧ ∀ K : Act → World → Prop, (∀ a w, S w → LateH P md ops Q S n f (listed.setIfInBounds i true) a w → K a w) → OpTo P ops Q oi a w K
theorem late_some {f : Nat} {listed : Array Bool} {a : Act} {w : World} (i : Nat) (l : List Nat) (hr : Region.ready md ops listed = i :: l)
  (h : ∀ j ∈ i :: l, StageTo P md ops Q S n f listed a w j) : LateH P md ops Q S n (f + 1) listed a w := fun inv => by
 refine ⟨by rw [hr]; simp, fun j hj => ?_⟩
 have hr' : j ∈ Region.ready md ops listed := hj
 rw [hr] at hj
 obtain ⟨hin, oi, hi, hs⟩ := h j hj
 exact ⟨hin, wpOp_step hi (fun K' hK => hs K' (fun a w hS hW => hK a w ⟨hS, hW (inv.set hr' hin)⟩))⟩
theorem late_same {f : Nat} {listed l2 : Array Bool} {a a2 : Act} {w : World} (hl : listed = l2) (ha : a = a2) (h : LateH P md ops Q S n f l2 a2 w) : LateH P md ops Q S n f listed a w := by
 subst hl
 subst ha
 exact h
theorem late_abs {f : Nat} {listed : Array Bool} {a : Act} {w : World} (h : ∀ G : Nat → Array Bool → Act → World → Prop, Hid (G = LateH P md ops Q S n) → G f listed a w) : LateH P md ops Q S n f listed a w := h _ rfl
theorem op_value {o : Oper} {a : Act} {w w' : World} {v : Value} {K : Act → World → Prop} (hgd : o.guard = none) (hrun : (execOp a.eval o).run P w = .ok (.value v) w') (h : K (a.put o.dst v) w') : OpTo P ops Q o a w K := by
 have hw : Region.wanted o (yielded ops a.tmps) = true := by simp [Region.wanted, hgd]
 unfold OpTo
 rw [if_pos hw]
 unfold Oper.wp
 rw [hrun]
 exact h
theorem op_enter {o : Oper} {a : Act} {w : World} {K : Act → World → Prop} (hgd : o.guard = none) (f : FuncId) (args : Array Value) (hrun : (execOp a.eval o).run P w = .ok (.enter f args) w)
  (hc : Calls P f args w fun e w'' => ∃ v, e = .returned v ∧ K (a.put o.dst v) w'') : OpTo P ops Q o a w K := by
 have hw : Region.wanted o (yielded ops a.tmps) = true := by simp [Region.wanted, hgd]
 unfold OpTo
 rw [if_pos hw]
 unfold Oper.wp
 rw [hrun, Oper.upon_enter]
 refine hc.mono fun e w'' hh => ?_
 obtain ⟨v, rfl, h⟩ := hh
 exact h
theorem op_makeMap {o : Oper} {a : Act} {w : World} {K : Act → World → Prop} (hgd : o.guard = none) (t : TypeId) (ho : o.op = .makeMap t none) (h : K (a.put o.dst (.map (some w.heap.size))) (w.alloc (.map #[] 0))) : OpTo P ops Q o a w K := by
 refine op_value hgd ?_ h
 simp [execOp, ho, run_makeMap, Result.andThen]
theorem op_insert {o : Oper} {a : Act} {w w' : World} {K : Act → World → Prop} (hgd : o.guard = none) (m x v : Operand) (t : TypeId) (ho : o.op = .insert t m x v)
  (hrun : (Instr.mapUpdate t (a.eval m) (a.eval x) (a.eval v)).run P w = .ok () w') (h : K (a.put o.dst undef) w') : OpTo P ops Q o a w K := by
 have hw : Region.wanted o (yielded ops a.tmps) = true := by simp [Region.wanted, hgd]
 unfold OpTo
 rw [if_pos hw]
 unfold Oper.wp
 simp [execOp, ho, hrun, Result.andThen]
 exact h
end
def TabW (w : World) (B n : Nat) (X : ByteArray → Int) : Prop := ∃ D, MapAt w B n D ∧ TabIs D X
theorem TabW.kept {w w' : World} {B n : Nat} {X : ByteArray → Int} (h : TabW w B n X) (hg : w.grownBy w' none) : TabW w' B n X := by
 obtain ⟨D, h1, h2⟩ := h
 exact ⟨D, World.ownsMap.kept h1 hg (by simp), h2⟩
theorem TabW.beside {w w' : World} {B C n : Nat} {X : ByteArray → Int} (h : TabW w B n X) (hg : w.grownBy w' (some C)) (hne : B ≠ C) : TabW w' B n X := by
 obtain ⟨D, h1, h2⟩ := h
 exact ⟨D, World.ownsMap.kept h1 hg (by simpa using hne), h2⟩
theorem TabW.lt {w : World} {B n : Nat} {X : ByteArray → Int} (h : TabW w B n X) : B < w.heap.size := by
 obtain ⟨D, h1, _⟩ := h
 exact World.ownsMap.lt h1
theorem TabW.made (w : World) : TabW (w.alloc (.map #[] 0)) w.heap.size 0 (fun _ => 0) := ⟨.map [], World.ownsMap_made (H := Unit) w Tryz.prog 9 (plainElem Tryz.prog 3), tab_start⟩
theorem TabW.put {w : World} {B n : Nat} {X : ByteArray → Int} (h : TabW w B n X) (hn : n ≤ 1000) {x : ByteArray} (hx : x.size ≤ maxLen) {z : Int} (hz : -9223372036854775808 ≤ z ∧ z ≤ 9223372036854775807) :
  ∃ w', (Instr.mapUpdate 110 (.map (some B)) (.string x) (.int .i64 z)).run Tryz.prog w = .ok () w' ∧ TabW w' B (n + 1) (fun m => if m = x then z else X m) ∧ w.grownBy w' (some B) := by
 obtain ⟨D, h1, h2⟩ := h
 obtain ⟨w', hr, h3, h4⟩ := World.ownsMap.update h1 Tryz.lawStr Tryz.underlying110 (lt_maxLen _ (by omega)) (key_str hx) (plainElem_int Tryz.underlying3 (wf64 hz.1 hz.2))
 exact ⟨w', hr, ⟨_, h3, h2.put x z⟩, h4⟩
theorem TabW.cong {w : World} {B n : Nat} {X Y : ByteArray → Int} (h : TabW w B n X) (he : ∀ m, X m = Y m) : TabW w B n Y := by
 obtain ⟨D, h1, h2⟩ := h
 exact ⟨D, h1, h2.cong he⟩
end Go.Proofs.YtgeklmigfhhpfaaGreatDoor
namespace Go.Proofs.YtgeklmigfhhpfaaGreatDoor
open Go Go.RowKit Go.Maps Go.WideMaps
instance memK {K : Type} [DecidableEq K] (k : K) (l : List K) : Decidable (k ∈ l) := List.instDecidableMemOfLawfulBEq k l
def kw (ts : List (ByteArray × Int)) : ByteArray := keyN (wordsL (outL ts))
def Plain (us : List CondD) : Prop := ∀ f ∈ us, ∀ t ∈ f.2, plainN t.1
theorem kw_inj {u v : List (ByteArray × Int)} (hu : ∀ t ∈ u, plainN t.1) (hv : ∀ t ∈ v, plainN t.1) (h : kw u = kw v) : u = v := words_inj hu hv (keyN_inj h)
theorem mem_keysIn {K : Type} [DecidableEq K] {ds : List (Int × K)} {k : K} : k ∈ keysIn ds ↔ ∃ d ∈ ds, d.2 = k := by
 induction ds using snocInd with
 | h0 => simp [keysIn]
 | h1 ds d ih =>
   rw [keysIn_snoc]
   constructor
   · intro h
     by_cases hd : d.2 ∈ keysIn ds
     · rw [if_pos hd] at h
       obtain ⟨e, he, e2⟩ := ih.1 h
       exact ⟨e, by simp [he], e2⟩
     · rw [if_neg hd] at h
       rcases List.mem_append.1 h with h | h
       · obtain ⟨e, he, e2⟩ := ih.1 h
         exact ⟨e, by simp [he], e2⟩
       · exact ⟨d, by simp, (List.mem_singleton.1 h).symm⟩
   · rintro ⟨e, he, rfl⟩
     rcases List.mem_append.1 he with he | he
     · have := ih.2 ⟨e, he, rfl⟩
       split
       · exact this
       · exact List.mem_append_left _ this
     · obtain rfl := List.mem_singleton.1 he
       by_cases hd : e.2 ∈ keysIn ds
       · rw [if_pos hd]; exact hd
       · rw [if_neg hd]; simp
structure LeastT (us : List CondD) (D : Table) : Prop where
 tab : ∃ X, TabIs D X ∧ ∀ f ∈ us, X (kw f.2) = leastK us f.2
 has_ : ∀ n, has D (strL n) = true ↔ ∃ f ∈ us, kw f.2 = n
theorem LeastT.start : LeastT [] (.map []) := ⟨⟨_, tab_start, fun f h => by cases h⟩, fun n => by simp [has]⟩
theorem has_put_str {D : Table} (h : IsMap D) (m n : ByteArray) (d : Table) : has (D.put (strL m) d) (strL n) = true ↔ n = m ∨ has D (strL n) = true := by
 by_cases e : n = m
 · subst e
   simp [has_put_same h (strL_key n) d]
 · rw [has_put_other (fun e2 => e (strL_inj e2))]
   simp [e]
theorem LeastT.has_in {us : List CondD} {D : Table} (h : LeastT us D) (hp : Plain us) {d : CondD} (hd : ∀ t ∈ d.2, plainN t.1) : has D (strL (kw d.2)) = decide (d.2 ∈ keysIn us) := by
 rw [Bool.eq_iff_iff, h.has_, decide_eq_true_iff, mem_keysIn]
 constructor
 · rintro ⟨f, hf, e⟩
   exact ⟨f, hf, kw_inj (hp f hf) hd e⟩
 · rintro ⟨f, hf, e⟩
   exact ⟨f, hf, by rw [e]⟩
theorem LeastT.at_in {us : List CondD} {D : Table} (h : LeastT us D) {d : CondD} (hd : d.2 ∈ keysIn us) : D.atKey (strL (kw d.2)) (lit64 0) = lit64 (leastK us d.2) := by
 obtain ⟨X, hX, hv⟩ := h.tab
 obtain ⟨f, hf, e⟩ := mem_keysIn.1 hd
 rw [hX.at_, ← e, hv f hf]
theorem LeastT.put {us : List CondD} {D : Table} (h : LeastT us D) (hp : Plain us) {d : CondD} (hd : ∀ t ∈ d.2, plainN t.1) (hl : d.2 ∉ keysIn us ∨ d.1 < leastK us d.2) : LeastT (us ++ [d]) (D.put (strL (kw d.2)) (lit64 d.1)) := by
 obtain ⟨X, hX, hv⟩ := h.tab
 refine ⟨⟨_, hX.put (kw d.2) d.1, fun f hf => ?_⟩, fun n => ?_⟩
 · have hself : leastK (us ++ [d]) d.2 = d.1 := by
    by_cases hk : d.2 ∈ keysIn us
    · rw [leastK_snoc_same us d hk]
      rcases hl with hl | hl
      · exact absurd hk hl
      · omega
    · exact leastK_snoc_new us d hk
   rcases List.mem_append.1 hf with hf | hf
   · by_cases e : f.2 = d.2
     · simp only [e, if_true]
       exact hself.symm
     · rw [if_neg (fun e2 => e (kw_inj (hp f hf) hd e2)), leastK_snoc_other us d (fun e2 => e e2.symm)]
       exact hv f hf
   · obtain rfl := List.mem_singleton.1 hf
     simp only [if_true]
     exact hself.symm
 · rw [has_put_str hX.map, h.has_]
   constructor
   · rintro (rfl | ⟨f, hf, e⟩)
     · exact ⟨d, by simp, rfl⟩
     · exact ⟨f, by simp [hf], e⟩
   · rintro ⟨f, hf, e⟩
     rcases List.mem_append.1 hf with hf | hf
     · exact .inr ⟨f, hf, e⟩
     · obtain rfl := List.mem_singleton.1 hf
       exact .inl e.symm
theorem LeastT.stay {us : List CondD} {D : Table} (h : LeastT us D) {d : CondD} (hk : d.2 ∈ keysIn us) (hl : ¬ d.1 < leastK us d.2) : LeastT (us ++ [d]) D := by
 obtain ⟨X, hX, hv⟩ := h.tab
 obtain ⟨g, hg, eg⟩ := mem_keysIn.1 hk
 have hself : leastK (us ++ [d]) d.2 = leastK us d.2 := by
  rw [leastK_snoc_same us d hk]
  omega
 refine ⟨⟨X, hX, fun f hf => ?_⟩, fun n => ?_⟩
 · rcases List.mem_append.1 hf with hf | hf
   · by_cases e : f.2 = d.2
     · rw [hv f hf, e, hself]
     · rw [hv f hf, leastK_snoc_other us d (fun e2 => e e2.symm)]
   · obtain rfl := List.mem_singleton.1 hf
     rw [hself, ← eg, hv g hg]
 · rw [h.has_]
   constructor
   · rintro ⟨f, hf, e⟩
     exact ⟨f, by simp [hf], e⟩
   · rintro ⟨f, hf, e⟩
     rcases List.mem_append.1 hf with hf | hf
     · exact ⟨f, hf, e⟩
     · obtain rfl := List.mem_singleton.1 hf
       exact ⟨g, hg, by rw [eg]; exact e⟩
structure DoneT (us : List CondD) (D : Table) : Prop where
 map : IsMap D
 at_ : ∀ n, D.atKey (strL n) (.lit (.bool false)) = .lit (.bool (decide (∃ f ∈ us, kw f.2 = n)))
theorem DoneT.start : DoneT [] (.map []) := ⟨isMap_empty, fun n => by
 have : (decide (∃ f ∈ ([] : List CondD), kw f.2 = n)) = false := by simp
 rw [this]
 rfl⟩
theorem DoneT.at_in {us : List CondD} {D : Table} (h : DoneT us D) (hp : Plain us) {d : CondD} (hd : ∀ t ∈ d.2, plainN t.1) : D.atKey (strL (kw d.2)) (.lit (.bool false)) = .lit (.bool (decide (d.2 ∈ keysIn us))) := by
 rw [h.at_]
 congr 2
 rw [decide_eq_decide, mem_keysIn]
 constructor
 · rintro ⟨f, hf, e⟩
   exact ⟨f, hf, kw_inj (hp f hf) hd e⟩
 · rintro ⟨f, hf, e⟩
   exact ⟨f, hf, by rw [e]⟩
theorem DoneT.put {us : List CondD} {D : Table} (h : DoneT us D) (d : CondD) : DoneT (us ++ [d]) (D.put (strL (kw d.2)) (.lit (.bool true))) := by
 refine ⟨h.map.put _ _, fun n => ?_⟩
 by_cases e : n = kw d.2
 · subst e
   rw [atKey_put_same h.map (strL_key _)]
   have : (decide (∃ f ∈ us ++ [d], kw f.2 = kw d.2)) = true := decide_eq_true ⟨d, by simp, rfl⟩
   rw [this]
 · rw [atKey_put_other (fun e2 => e (strL_inj e2)), h.at_]
   congr 2
   rw [decide_eq_decide]
   constructor
   · rintro ⟨f, hf, e2⟩
     exact ⟨f, by simp [hf], e2⟩
   · rintro ⟨f, hf, e2⟩
     rcases List.mem_append.1 hf with hf | hf
     · exact ⟨f, hf, e2⟩
     · obtain rfl := List.mem_singleton.1 hf
       exact absurd e2.symm e
theorem DoneT.stay {us : List CondD} {D : Table} (h : DoneT us D) {d : CondD} (hk : d.2 ∈ keysIn us) : DoneT (us ++ [d]) D := by
 obtain ⟨g, hg, eg⟩ := mem_keysIn.1 hk
 refine ⟨h.map, fun n => ?_⟩
 rw [h.at_]
 congr 2
 rw [decide_eq_decide]
 constructor
 · rintro ⟨f, hf, e2⟩
   exact ⟨f, by simp [hf], e2⟩
 · rintro ⟨f, hf, e2⟩
   rcases List.mem_append.1 hf with hf | hf
   · exact ⟨f, hf, e2⟩
   · obtain rfl := List.mem_singleton.1 hf
     exact ⟨g, hg, by rw [eg]; exact e2⟩
def outT (L us : List CondD) : List CondD := (keysIn us).map fun k => (leastK L k, k)
theorem outT_all (L : List CondD) : outT L L = mergeAll L := (mergeAll_eq L).symm
theorem outT_new {L us : List CondD} {d : CondD} (h : d.2 ∉ keysIn us) : outT L (us ++ [d]) = outT L us ++ [(leastK L d.2, d.2)] := by
 unfold outT
 rw [keysIn_snoc, if_neg h, List.map_append]
 rfl
theorem outT_old {L us : List CondD} {d : CondD} (h : d.2 ∈ keysIn us) : outT L (us ++ [d]) = outT L us := by
 unfold outT
 rw [keysIn_snoc, if_pos h]
structure OkForm (f : CondD) : Prop where
 ups : Ups f.2
 len : f.2.length ≤ 800
 num : f.1.natAbs ≤ 1000000000000
 term : ∀ t ∈ f.2, plainN t.1 ∧ t.2 ≠ 0 ∧ t.1.size ≤ 100 ∧ t.2.natAbs ≤ 1000000000
theorem OkForm.ne {f : CondD} (h : OkForm f) : ∀ t ∈ f.2, t.1 ≠ ByteArray.empty := fun t ht e => by
 have := (h.term t ht).1.1
 rw [e, ByteArray.toList_eq] at this
 exact this rfl
theorem coefX_snoc {us : List (ByteArray × Int)} {n : ByteArray} (z : Int) (h : ∀ t ∈ us, t.1 ≠ n) (m : ByteArray) : coefX (us ++ [(n, z)]) m = if m = n then z else coefX us m := by
 induction us with
 | nil =>
   rw [List.nil_append, coefX_cons]
   by_cases e : m = n
   · rw [if_pos e.symm, if_pos e]
   · rw [if_neg (fun e2 => e e2.symm), if_neg e]
 | cons t r ih =>
   rw [List.cons_append, coefX_cons, coefX_cons, ih (fun u hu => h u (List.mem_cons_of_mem _ hu))]
   by_cases e : m = n
   · subst e
     rw [if_neg (h t List.mem_cons_self), if_pos rfl, if_pos rfl]
   · rw [if_neg e, if_neg e]
theorem self_formX {c : Int} {us : List (ByteArray × Int)} (hu : Ups us) (hn : ∀ t ∈ us, t.1 ≠ ByteArray.empty ∧ t.2 ≠ 0) : FormX (polyX c us) c (c, us) := by
 refine ⟨rfl, hu, fun n z => ?_⟩
 constructor
 · intro h
   obtain ⟨h1, h2⟩ := hn _ h
   refine ⟨h1, h2, ?_⟩
   unfold polyX
   rw [if_neg h1]
   exact coefX_mem (ups_apart hu) h
 · rintro ⟨h1, h2, h3⟩
   unfold polyX at h3
   rw [if_neg h1] at h3
   subst h3
   exact coefX_hit h2
end Go.Proofs.YtgeklmigfhhpfaaGreatDoor
namespace Go.Proofs.YtgeklmigfhhpfaaGreatDoor
open Go.RowKit
attribute [local go_sem ↓] Go.wp_at_zero Go.wp_at_succ
structure CW (w : World) (P : Nat) (kv : Value) (fs : List CondD) (tvs : List Value) : Prop where
 len : tvs.length = fs.length
 row : w.ownsRow P 35 2 kv fs.length ((fs.zip tvs).flatMap condCells)
 terms : ∀ (j : Nat) (f : CondD) (tv : Value), fs[j]? = some f → tvs[j]? = some tv → (-9223372036854775808 ≤ f.1 ∧ f.1 ≤ 9223372036854775807) ∧ ∀ w2, w.grownBy w2 kv.ownBlock → TermsAt w2 tv f.2
theorem CW.start (w : World) (P : Nat) : CW w P (.slice none 0 0) [] [] := ⟨rfl, World.ownsRow_nil _ _ _ _, fun j f tv h => by simp at h⟩
theorem CW.kept {w w' : World} {P : Nat} {kv : Value} {fs : List CondD} {tvs : List Value} (h : CW w P kv fs tvs) (hg : w.grownBy w' none) : CW w' P kv fs tvs :=
 ⟨h.len, owns_kept h.row hg, fun j f tv h1 h2 => ⟨(h.terms j f tv h1 h2).1, fun w2 h3 => (h.terms j f tv h1 h2).2 w2 (gT (grownBy_any _ hg) h3)⟩⟩
theorem CW.conds {w : World} {P : Nat} {kv : Value} {fs : List CondD} {tvs : List Value} (h : CW w P kv fs tvs) (hl : fs.length ≤ 1000000) : CondsAt w kv fs := by
 obtain ⟨p, cap, rfl⟩ := own_form h.row
 refine ⟨p, cap, rfl, hl, fun j f hj => ?_⟩
 have hjl := (List.getElem?_eq_some_iff.1 hj).1
 have hjt : tvs[j]? = some (tvs[j]'(by rw [h.len]; exact hjl)) := List.getElem?_eq_getElem _
 generalize tvs[j]'(by rw [h.len]; exact hjl) = tv at hjt
 have hz : (fs.zip tvs)[j]? = some (f, tv) := by
  rw [List.getElem?_zip_eq_some]
  exact ⟨hj, hjt⟩
 obtain ⟨b, c1, e1, _, k1⟩ := own_cell h.row (flat_get (k := 2) (fun _ => rfl) hz (i := 0) (v := .int .i64 f.1) rfl)
 obtain ⟨b2, c2, e2, _, k2⟩ := own_cell h.row (flat_get (k := 2) (fun _ => rfl) hz (i := 1) (v := tv) rfl)
 obtain ⟨rfl, _, _⟩ := Value.slice.inj e1
 obtain ⟨ee, _, _⟩ := Value.slice.inj e2
 cases ee
 obtain ⟨hb, ht⟩ := h.terms j f tv hj hjt
 exact ⟨b, 0, tv, rfl, by simpa using k1, by simpa using k2, ht w (grownBy_any _ (gR _ _)), hb⟩
theorem CW.push {w w1 w2 : World} {P g cap : Nat} {kv tv : Value} {fs : List CondD} {tvs : List Value} {f : CondD} {o : Obj} (h : CW w P kv fs tvs)
  (k1 : w.grownBy w1 none) (hf : -9223372036854775808 ≤ f.1 ∧ f.1 ≤ 9223372036854775807) (ht : ∀ w2, w1.grownBy w2 kv.ownBlock → TermsAt w2 tv f.2) (k2 : (w1.alloc o).grownBy w2 kv.ownBlock)
  (row : w2.ownsRow P 35 2 (.slice (some ⟨g, 0, none⟩) (fs.length + 1) cap) (fs.length + 1) ((fs.zip tvs).flatMap condCells ++ condCells (f, tv))) (hg : kv.ownBlock = some g ∨ w1.heap.size ≤ g) :
  CW w2 P (.slice (some ⟨g, 0, none⟩) (fs.length + 1) cap) (fs ++ [f]) (tvs ++ [tv]) := by
 have k12 := gT (gA w1 o kv.ownBlock) k2
 refine ⟨by simp [h.len], ?_, fun j q tv' hj hcv' => ?_⟩
 · rw [List.length_append, List.zip_append (by rw [h.len]), List.flatMap_append]
   simpa using row
 · by_cases hj' : j < fs.length
   · rw [List.getElem?_append_left hj'] at hj
     rw [List.getElem?_append_left (by rw [h.len]; exact hj')] at hcv'
     obtain ⟨hb, hs⟩ := h.terms j q tv' hj hcv'
     exact ⟨hb, fun w3 h3 => hs w3 (grown_next k1 k12 hg h3)⟩
   · have hj2 : j = fs.length := by
      have := (List.getElem?_eq_some_iff.1 hj).1
      simp at this
      omega
     subst hj2
     simp at hj
     subst hj
     rw [← h.len] at hcv'
     simp at hcv'
     subst hcv'
     exact ⟨hf, fun w3 h3 => ht w3 (grown_next (gR _ _) k12 hg h3)⟩
theorem conds_cells {w : World} {v : Value} {fs : List CondD} (h : CondsAt w v fs) : ∃ (p : Option Addr) (cap : Nat) (tvs : List Value), v = .slice p fs.length cap ∧ tvs.length = fs.length ∧ (∀ a, p = some a → ∀ j u, ((fs.zip tvs).flatMap condCells)[j]? = some u → w.cell? (a.add j) = some u) ∧ (p = none → fs = []) ∧
  (∀ u ∈ (fs.zip tvs).flatMap condCells, u.oneCell' = true) ∧ ∀ (j : Nat) (f : CondD) (tv : Value), fs[j]? = some f → tvs[j]? = some tv → (-9223372036854775808 ≤ f.1 ∧ f.1 ≤ 9223372036854775807) ∧ TermsAt w tv f.2 := by
 obtain ⟨p, cap, rfl, hl, hc⟩ := h
 have hex : ∀ j : Nat, ∃ tv : Value, ∀ f, fs[j]? = some f → ∃ b off, p = some ⟨b, off, none⟩ ∧ w.cell? ⟨b, off + j * 2, none⟩ = some (.int .i64 f.1) ∧ w.cell? ⟨b, off + j * 2 + 1, none⟩ = some tv ∧ TermsAt w tv f.2 ∧ -9223372036854775808 ≤ f.1 ∧ f.1 ≤ 9223372036854775807 := by
  intro j
  cases hj : fs[j]? with
  | none => exact ⟨.bool true, fun f h => by cases h⟩
  | some f =>
    obtain ⟨b, off, tv, h1, h2, h3, h4, h5⟩ := hc j f hj
    exact ⟨tv, fun f' h => by cases h; exact ⟨b, off, h1, h2, h3, h4, h5⟩⟩
 have hf := fun j => Classical.choose_spec (hex j)
 generalize hF : (fun j => Classical.choose (hex j)) = F at *
 have hf : ∀ j f, fs[j]? = some f → ∃ b off, p = some ⟨b, off, none⟩ ∧ w.cell? ⟨b, off + j * 2, none⟩ = some (.int .i64 f.1) ∧ w.cell? ⟨b, off + j * 2 + 1, none⟩ = some (F j) ∧ TermsAt w (F j) f.2 ∧ -9223372036854775808 ≤ f.1 ∧ f.1 ≤ 9223372036854775807 := by
  intro j f hj
  have h := hf j f hj
  rw [← hF]
  exact h
 have hlen : ((List.range fs.length).map F).length = fs.length := by simp
 have hget : ∀ (j : Nat) (f : CondD) (tv : Value), fs[j]? = some f → ((List.range fs.length).map F)[j]? = some tv → tv = F j := by
  intro j f tv h1 h2
  have hjl := (List.getElem?_eq_some_iff.1 h1).1
  rw [List.getElem?_map, List.getElem?_range hjl] at h2
  simp at h2
  exact h2.symm
 refine ⟨p, cap, (List.range fs.length).map F, rfl, hlen, fun a ha j u hj => ?_, fun hp => ?_, fun u hu => ?_, fun j f tv h1 h2 => ?_⟩
 · obtain ⟨⟨f, tv⟩, h1, h2⟩ := flat_inv (f := condCells) (k := 2) (fun _ => rfl) hj
   rw [List.getElem?_zip_eq_some] at h1
   have htv := hget _ f tv h1.1 h1.2
   obtain ⟨b, off, hp, c1, c2, _⟩ := hf _ f h1.1
   rw [hp] at ha
   obtain rfl := Option.some.inj ha
   have hadd : (⟨b, off, none⟩ : Addr).add j = ⟨b, off + j, none⟩ := by unfold Addr.add; split <;> simp_all
   rw [hadd]
   have hm : j % 2 = 0 ∨ j % 2 = 1 := by omega
   rcases hm with e | e
   · rw [e] at h2
     obtain rfl := Option.some.inj h2
     rw [show off + j = off + j / 2 * 2 by omega]
     exact c1
   · rw [e] at h2
     obtain rfl := Option.some.inj h2
     rw [show off + j = off + j / 2 * 2 + 1 by omega, htv]
     exact c2
 · cases hfs : fs with
   | nil => rfl
   | cons f r =>
     obtain ⟨b, off, h1, _⟩ := hf 0 f (by rw [hfs]; rfl)
     rw [hp] at h1
     cases h1
 · obtain ⟨⟨f, tv⟩, h1, h2⟩ := List.mem_flatMap.1 hu
   obtain ⟨j, hj⟩ := List.mem_iff_getElem?.1 h1
   rw [List.getElem?_zip_eq_some] at hj
   have htv := hget _ f tv hj.1 hj.2
   obtain ⟨_, _, _, _, _, ⟨pt, ct, ht, _⟩, _⟩ := hf j f hj.1
   rw [← htv] at ht
   subst ht
   simp [condCells] at h2
   rcases h2 with rfl | rfl <;> rfl
 · have htv := hget _ f tv h1 h2
   obtain ⟨_, _, _, _, _, h4, h5⟩ := hf j f h1
   rw [htv]
   exact ⟨h5, h4⟩
end Go.Proofs.YtgeklmigfhhpfaaGreatDoor
namespace Go.Proofs.YtgeklmigfhhpfaaGreatDoor
open Go.RowKit
attribute [local go_sem ↓] Go.wp_at_zero Go.wp_at_succ
theorem run_append_zero {P : Program} (w : World) (base : Nat) (t ty e : TypeId) (i : TypeInfo) (size : Nat) (ht : P.underlying t = some (.slice e)) (hi : P.info? e = some i)
  (v : Value) (n : Nat) (xs : List Value) (hown : w.ownsRow base e size v n xs) (p : Option Addr) (c : Nat) :
  (Builtin.append_ #[t, t] ty #[v, .slice p 0 c]).run P w = .ok v w := by
 rcases hown.2 with ⟨rfl, rfl⟩ | ⟨g, cap, cur, rfl, _, _, hnc, _⟩
 · cases p <;> simp [Builtin.append_, run_underlying ht, sizeOf, typeInfo, hi, Builtin.lenOf, Builtin.firstCells, loadCells, loadCellsFrom]
 · cases p <;> simp [Builtin.append_, run_underlying ht, sizeOf, typeInfo, hi, Builtin.lenOf, Builtin.firstCells, hnc, storeCells, loadCells, loadCellsFrom]
theorem TermsAt.later {w w1 w2 : World} {tv : Value} {ts : List (ByteArray × Int)} {o : Option Nat} (h : TermsAt w tv ts) (h1 : w.grownBy w1 none) (h2 : w1.grownBy w2 o) (hk : ∀ k, o = some k → w.heap.size ≤ k) : TermsAt w2 tv ts :=
 h.kept (gO h1 h2 hk)
theorem zip_two {α β : Type} {a c : List α} {b d : List β} (h : b.length = a.length) : (a ++ c).zip (b ++ d) = a.zip b ++ c.zip d := List.zip_append h.symm
theorem conds_append {w0 w1 : World} {P : Nat} {kv v : Value} {fs gs : List CondD} {tvs : List Value} (ty : TypeId) (h : CW w1 P kv fs tvs) (hv : CondsAt w0 v gs) (hg : w0.grownBy w1 none) (h0 : w0.heap.size ≤ P) (hP : P ≤ w1.heap.size) (hn : fs.length + gs.length ≤ 4000000) :
  ∃ v' w2 us, (Builtin.append_ #[27, 27] ty #[kv, v]).run Tryz.prog w1 = .ok v' w2 ∧ CW w2 P v' (fs ++ gs) (tvs ++ us) ∧ w1.grownBy w2 kv.ownBlock ∧ (kv.ownBlock = v'.ownBlock ∨ ∃ g, v'.ownBlock = some g ∧ w1.heap.size ≤ g) := by
 obtain ⟨i0, hi, hz0, hz1, hz2⟩ := info_parts Tryz.infoForm
 obtain ⟨p, cap, us, rfl, hul, hcells, hnil, hone, hterms⟩ := conds_cells hv
 by_cases hgs : gs = []
 · subst hgs
   have hu0 : us = [] := List.eq_nil_of_length_eq_zero hul
   subst hu0
   refine ⟨kv, w1, [], run_append_zero w1 P _ ty _ i0 2 Tryz.underlying27 hi kv _ _ h.row p cap, ?_, grownBy_any _ (gR _ _), .inl rfl⟩
   rw [List.append_nil, List.append_nil]
   exact h
 · obtain ⟨a, rfl⟩ : ∃ a, p = some a := by
    cases p with
    | none => exact absurd (hnil rfl) hgs
    | some a => exact ⟨a, rfl⟩
   have hpos : 0 < gs.length := List.length_pos_iff.2 hgs
   have hfl : ((gs.zip us).flatMap condCells).length = gs.length * 2 := by
    rw [flat_length (f := condCells) (k := 2) (fun _ => rfl), List.length_zip, hul, Nat.min_self]
   obtain ⟨g, c, w2, hr, hown, hgrow, hat, _⟩ := run_append_lies (P := Tryz.prog) w1 27 ty P 35 i0 (.agg #[.int .i64 0, .slice none 0 0]) 2 32 Tryz.underlying27 hi hz0 hz1 hz2 rfl (by decide) kv fs.length _ h.row a gs.length cap ((gs.zip us).flatMap condCells) hfl (fun j u hj => hg.cell (hcells a rfl j u hj) (by simp)) hone hpos (by unfold maxLen; omega) (by omega) hP w1.heap.size rfl
   have hat' : kv.ownBlock = some g ∨ w1.heap.size ≤ g := hat.imp id fun e => by omega
   refine ⟨_, w2, us, hr, ⟨by rw [List.length_append, List.length_append, h.len, hul], ?_, fun j f tv hj htv => ?_⟩, hgrow, hat'.imp id fun e => ⟨g, rfl, e⟩⟩
   · rw [zip_two h.len, List.flatMap_append, List.length_append]
     exact hown
   · by_cases hj' : j < fs.length
     · rw [List.getElem?_append_left hj'] at hj
       rw [List.getElem?_append_left (by rw [h.len]; exact hj')] at htv
       obtain ⟨hb, hs⟩ := h.terms j f tv hj htv
       exact ⟨hb, fun w3 h3 => hs w3 (grown_next (gR _ _) hgrow hat' h3)⟩
     · rw [List.getElem?_append_right (by omega)] at hj
       rw [List.getElem?_append_right (by rw [h.len]; omega), h.len] at htv
       obtain ⟨hb, hs⟩ := hterms _ f tv hj htv
       refine ⟨hb, fun w3 h3 => ?_⟩
       have h13 := grown_next (gR w1 none) hgrow hat' h3
       exact hs.later hg h13 (fun k hk => by have := (World.ownsRow.lt h.row k hk).1; omega)
theorem step_append_run {P : Program} {w w' : World} {ops : Array Oper} {o : Oper} {a : Act} {K : Act → World → Prop} {Q : Exit → Act → World → Prop} {E : Prop} (hgd : o.guard = none) (s x : Operand) (t : TypeId)
  (ho : o.op = .call { callee := .builtin .append, args := #[s, x], argTypes := #[t, t] }) (v u r : Value) (hs : a.eval s = v) (hx : a.eval x = u) (hr : (Builtin.append_ #[t, t] o.type #[v, u]).run P w = .ok r w') (h : K (a.put o.dst r) w') :
  if Region.wanted o (yielded ops a.tmps) = true then Oper.wp P o a w K Q else E := by
 have hw : Region.wanted o (yielded ops a.tmps) = true := by simp [Region.wanted, hgd]
 rw [if_pos hw]
 unfold Oper.wp execOp
 simp only [ho, resolve, invoke, builtin, Sem.run_bind, Sem.run_pure, Result.andThen_ok, List.map_toArray, List.map_cons, List.map_nil, hs, hx, hr]
 exact h
def ClonedForms (fs : List CondD) (w : World) (e : Ending) (w' : World) : Prop :=
 ∃ p cap tvs, e = .returned (.slice p fs.length cap) ∧ CW w' w.heap.size (.slice p fs.length cap) fs tvs ∧ w.grownBy w' none
set_option maxRecDepth 100000 in
set_option maxHeartbeats 1000000 in
theorem cloneForms_any (v : Value) (fs : List CondD) (w : World) (hs : CondsAt w v fs) (hl : fs.length ≤ 4000000) :
  Calls Tryz.prog 36 #[v] w (ClonedForms fs w) := by
 obtain ⟨p, cap, tvs, rfl, hul, hcells, hnl, hone, hterms⟩ := conds_cells hs
 cases p with
 | none =>
   have hl0 := hnl rfl
   subst hl0
   have hnil := fun W => Lib.run_eql_slice_nil (P := Tryz.prog) W 27 35 none 0 cap 0 0 Tryz.underlying27
   clear hs hcells hone hterms
   go_enter Tryz.func36, Tryz.ntmps36
   go_wp2
   go_ret
   exact ⟨none, 0, [], rfl, CW.start _ _, gR _ _⟩
 | some a =>
   obtain ⟨i0, hi, hz0, hz1, hz2⟩ := info_parts Tryz.infoForm
   have hnil := fun W => Lib.run_eql_slice_nil (P := Tryz.prog) W 27 35 (some a) fs.length cap 0 0 Tryz.underlying27
   have H : Hid (∀ j u, ((fs.zip tvs).flatMap condCells)[j]? = some u → w.cell? (a.add j) = some u) := hcells a rfl
   have HO := uH hone
   have HT := uH hterms
   have HU := uH hul
   have hfl : ((fs.zip tvs).flatMap condCells).length = fs.length * 2 := by
    rw [flat_length (f := condCells) (k := 2) (fun _ => rfl), List.length_zip, hul, Nat.min_self]
   have HFl := uH hfl
   clear hs hcells hone hterms hul hfl hnl
   generalize hcl : (fs.zip tvs).flatMap condCells = cells at *
   go_enter Tryz.func36, Tryz.ntmps36
   go_wp2_with (first | (at_builtin; go_must (refine wpList_append_own _ rfl _ _ 27 rfl w.heap.size 35 i0 (.agg #[.int .i64 0, .slice none 0 0]) 2 32 Tryz.underlying27 hi hz0 hz1 hz2 rfl (by decide) _ 0 [] rfl (World.ownsRow_made _ _ _ (Nat.le_refl _) (Nat.zero_le _) rfl) a fs.length cap cells rfl HFl.out ?_ ?_ (by unfold maxLen; omega) (by omega) (by simp) ?_)))
   · intro j u hj
     exact (gA _ _ none).cell (H.out j u hj) (by simp)
   · exact HO.out
   · intro v' w' ho hg _
     obtain ⟨p', cap', rfl⟩ := own_form ho
     have HOw := uH ho
     have HG := uH hg
     clear ho hg
     go_wp2
     go_ret
     have hgr := gO (gA w _ none) HG.out (fun i hi => by simp [Value.ownBlock] at hi; omega)
     refine ⟨p', cap', tvs, by simp, ⟨HU.out, ?_, fun j f tv h1 h2 => ⟨(HT.out j f tv h1 h2).1, fun w3 h3 => (HT.out j f tv h1 h2).2.later hgr h3 (fun k hk => ?_)⟩⟩, hgr⟩
     · have h := HOw.out
       rw [← hcl] at h
       exact h
     · have h := HOw.out
       exact (World.ownsRow.lt h k hk).1
end Go.Proofs.YtgeklmigfhhpfaaGreatDoor
