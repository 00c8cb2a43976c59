/-
 Tight conditions, as lists: the greatest common divisor of a row; of conditions with the same key the narrowest. Rows and forms side by side: what is made tight, merged, left out. A variable left out, or replaced: rows and forms side by side. Rows that are made: two rows added, a row divided.
-/
import Derived.StillTailTactics
import Derived.Deep.RegionHeld3
import Derived.Test.YtgeklmigfhhpfaaGreatDoorQ08
import Derived.Test.YtgeklmigfhhpfaaGreatDoorQ09
namespace Go.Proofs.YtgeklmigfhhpfaaGreatDoor
open Go.RowKit
theorem snocInd {α : Type} {P : List α → Prop} (h0 : P []) (h1 : ∀ l a, P l → P (l ++ [a])) (l : List α) : P l := by
 have h : ∀ r : List α, P r.reverse := by
  intro r
  induction r with
  | nil => exact h0
  | cons a r ih => rw [List.reverse_cons]; exact h1 _ _ ih
 have := h l.reverse
 rwa [List.reverse_reverse] at this
theorem nodup_get {α : Type} {l : List α} (h : l.Nodup) {i j : Nat} (hi : i < l.length) (hj : j < l.length) (e : l[i] = l[j]) : i = j := by
 have hp := List.pairwise_iff_getElem.1 h
 rcases Nat.lt_trichotomy i j with h1 | h1 | h1
 · exact absurd e (hp i j hi hj h1)
 · exact h1
 · exact absurd e.symm (hp j i hj hi h1)
def gcdL (cs : List Int) : Nat := cs.foldr (fun c g => Nat.gcd c.natAbs g) 0
theorem gcdL_cons (c : Int) (cs : List Int) : gcdL (c :: cs) = Nat.gcd c.natAbs (gcdL cs) := rfl
theorem gcdL_perm {a b : List Int} (h : a.Perm b) : gcdL a = gcdL b := by
 induction h with
 | nil => rfl
 | cons x _ ih => rw [gcdL_cons, gcdL_cons, ih]
 | swap x y l => rw [gcdL_cons, gcdL_cons, gcdL_cons, gcdL_cons, ← Nat.gcd_assoc, ← Nat.gcd_assoc, Nat.gcd_comm y.natAbs]
 | trans _ _ h1 h2 => exact h1.trans h2
theorem gcdL_filter (cs : List Int) : gcdL (cs.filter (fun c => c != 0)) = gcdL cs := by
 induction cs with
 | nil => rfl
 | cons c r ih =>
   rw [List.filter_cons, gcdL_cons]
   by_cases h : c = 0
   · subst h
     simp [ih]
   · rw [if_pos (by simpa using h), gcdL_cons, ih]
theorem gcdL_append (a b : List Int) : gcdL (a ++ b) = Nat.gcd (gcdL a) (gcdL b) := by
 induction a with
 | nil => simp [gcdL]
 | cons x r ih => rw [List.cons_append, gcdL_cons, gcdL_cons, ih, Nat.gcd_assoc]
theorem gcdL_snoc (a : List Int) (c : Int) : gcdL (a ++ [c]) = Nat.gcd (gcdL a) c.natAbs := by
 rw [gcdL_append]
 simp [gcdL]
theorem gcdL_zero {cs : List Int} : gcdL cs = 0 ↔ ∀ c ∈ cs, c = 0 := by
 induction cs with
 | nil => simp [gcdL]
 | cons c r ih =>
   rw [gcdL_cons, Nat.gcd_eq_zero_iff, ih]
   simp
theorem gcdL_dvd {cs : List Int} {c : Int} (h : c ∈ cs) : ((gcdL cs : Nat) : Int) ∣ c := by
 induction cs with
 | nil => cases h
 | cons x r ih =>
   rw [gcdL_cons]
   rcases List.mem_cons.1 h with rfl | h
   · exact Int.ofNat_dvd_left.2 (Nat.gcd_dvd_left _ _)
   · exact Int.dvd_trans (Int.ofNat_dvd.2 (Nat.gcd_dvd_right _ _)) (ih h)
theorem gcdL_le {cs : List Int} {m : Nat} (h : ∀ c ∈ cs, c.natAbs ≤ m) : gcdL cs ≤ m := by
 induction cs with
 | nil => simp [gcdL]
 | cons x r ih =>
   rw [gcdL_cons]
   by_cases hx : x.natAbs = 0
   · rw [hx, Nat.gcd_zero_left]
     exact ih fun c hc => h c (List.mem_cons_of_mem _ hc)
   · exact Nat.le_trans (Nat.gcd_le_left _ (by omega)) (h x (by simp))
def divR (r : RowD) : RowD := if gcdL r.2 = 0 then r else (r.1 / (gcdL r.2 : Int), r.2.map fun c => c / (gcdL r.2 : Int))
def mergeK {K : Type} [DecidableEq K] (acc : List (Int × K)) (d : Int × K) : List (Int × K) :=
 match acc.findIdx? (fun q => decide (q.2 = d.2)) with
 | none => acc ++ [d]
 | some k => acc.modify k fun q => (min q.1 d.1, q.2)
def mergeAll {K : Type} [DecidableEq K] (ds : List (Int × K)) : List (Int × K) := ds.foldl mergeK []
theorem mergeAll_snoc {K : Type} [DecidableEq K] (ds : List (Int × K)) (d : Int × K) : mergeAll (ds ++ [d]) = mergeK (mergeAll ds) d := by simp [mergeAll]
def keysIn {K : Type} [DecidableEq K] (ds : List (Int × K)) : List K := ds.foldl (fun acc d => if d.2 ∈ acc then acc else acc ++ [d.2]) []
theorem keysIn_snoc {K : Type} [DecidableEq K] (ds : List (Int × K)) (d : Int × K) : keysIn (ds ++ [d]) = if d.2 ∈ keysIn ds then keysIn ds else keysIn ds ++ [d.2] := by
 unfold keysIn
 rw [List.foldl_append]
 rfl
def leastK {K : Type} [DecidableEq K] (ds : List (Int × K)) (k : K) : Int := ((ds.filter fun d => decide (d.2 = k)).map Prod.fst).foldl (fun a x => min a x) (((ds.filter fun d => decide (d.2 = k)).map Prod.fst).headD 0)
theorem leastK_snoc_other {K : Type} [DecidableEq K] (ds : List (Int × K)) (d : Int × K) {k : K} (h : d.2 ≠ k) : leastK (ds ++ [d]) k = leastK ds k := by
 unfold leastK
 rw [List.filter_append]
 simp [h]
theorem leastK_snoc_same {K : Type} [DecidableEq K] (ds : List (Int × K)) (d : Int × K) (h : d.2 ∈ keysIn ds) : leastK (ds ++ [d]) d.2 = min (leastK ds d.2) d.1 := by
 have hne : (ds.filter fun e => decide (e.2 = d.2)).map Prod.fst ≠ [] := by
  intro e
  have hno : ∀ (es : List (Int × K)), (es.filter fun e => decide (e.2 = d.2)).map Prod.fst = [] → d.2 ∉ keysIn es := by
   intro es
   induction es using snocInd with
   | h0 => intro _; simp [keysIn]
   | h1 es x ih =>
     intro h0
     rw [List.filter_append, List.map_append, List.append_eq_nil_iff] at h0
     rw [keysIn_snoc]
     have hx : x.2 ≠ d.2 := by
      intro e2
      have := h0.2
      simp [e2] at this
     split
     · exact ih h0.1
     · rw [List.mem_append, not_or]
       exact ⟨ih h0.1, by simpa using fun e3 => hx e3.symm⟩
  exact hno ds e h
 unfold leastK
 rw [List.filter_append, List.map_append]
 obtain ⟨a, r, e⟩ : ∃ a r, (ds.filter fun e => decide (e.2 = d.2)).map Prod.fst = a :: r := by
  cases e : (ds.filter fun e => decide (e.2 = d.2)).map Prod.fst with
  | nil => exact absurd e hne
  | cons a r => exact ⟨a, r, rfl⟩
 rw [e]
 simp
theorem leastK_snoc_new {K : Type} [DecidableEq K] (ds : List (Int × K)) (d : Int × K) (h : d.2 ∉ keysIn ds) : leastK (ds ++ [d]) d.2 = d.1 := by
 have hno : ∀ (es : List (Int × K)), d.2 ∉ keysIn es → (es.filter fun e => decide (e.2 = d.2)) = [] := by
  intro es
  induction es using snocInd with
  | h0 => intro _; rfl
  | h1 es x ih =>
    intro h0
    rw [keysIn_snoc] at h0
    rw [List.filter_append]
    split at h0
    · rename_i hx
      rw [ih h0]
      have hx2 : x.2 ≠ d.2 := fun e => h0 (e ▸ hx)
      simp [hx2]
    · rw [List.mem_append, not_or] at h0
      rw [ih h0.1]
      have hx2 : x.2 ≠ d.2 := fun e => h0.2 (by simp [e])
      simp [hx2]
 unfold leastK
 rw [List.filter_append, hno ds h]
 simp
theorem keysIn_nodup {K : Type} [DecidableEq K] (ds : List (Int × K)) : (keysIn ds).Nodup := by
 induction ds using snocInd with
 | h0 => exact List.nodup_nil
 | h1 ds d ih =>
   rw [keysIn_snoc]
   split
   · exact ih
   · rename_i h
     rw [List.nodup_append]
     refine ⟨ih, by simp, ?_⟩
     intro a ha b hb e
     obtain rfl := List.mem_singleton.1 hb
     exact h (e ▸ ha)
theorem mergeAll_eq {K : Type} [DecidableEq K] (ds : List (Int × K)) : mergeAll ds = (keysIn ds).map fun k => (leastK ds k, k) := by
 induction ds using snocInd with
 | h0 => rfl
 | h1 ds d ih =>
   rw [mergeAll_snoc, keysIn_snoc, ih]
   unfold mergeK
   by_cases h : d.2 ∈ keysIn ds
   · rw [if_pos h]
     obtain ⟨k, hk, e⟩ := List.getElem_of_mem h
     have hf : ((keysIn ds).map fun k => (leastK ds k, k)).findIdx? (fun q => decide (q.2 = d.2)) = some k := by
      rw [List.findIdx?_eq_some_iff_getElem]
      refine ⟨by simpa using hk, by simpa using e, fun j hj => ?_⟩
      simp only [List.getElem_map, decide_eq_true_eq]
      intro e2
      have hjk := nodup_get (keysIn_nodup ds) (by omega) hk (e2.trans e.symm)
      omega
     rw [hf]
     apply List.ext_getElem?
     intro j
     simp only [List.getElem?_modify, List.getElem?_map]
     cases hj : (keysIn ds)[j]? with
     | none => simp
     | some x =>
       by_cases ejk : k = j
       · subst ejk
         have hx : x = d.2 := by
          rw [List.getElem?_eq_getElem hk] at hj
          rw [← Option.some.inj hj]
          exact e
         subst hx
         simp [leastK_snoc_same ds d h]
       · have hx : d.2 ≠ x := by
          intro e2
          obtain ⟨hj2, e3⟩ := List.getElem?_eq_some_iff.1 hj
          exact ejk (nodup_get (keysIn_nodup ds) hk hj2 (e.trans (e2.trans e3.symm)))
         simp [ejk, leastK_snoc_other ds d hx]
   · rw [if_neg h]
     have hf : ((keysIn ds).map fun k => (leastK ds k, k)).findIdx? (fun q => decide (q.2 = d.2)) = none := by
      rw [List.findIdx?_eq_none_iff]
      intro q hq
      obtain ⟨x, hx, rfl⟩ := List.mem_map.1 hq
      have hne : ¬ x = d.2 := fun e => h (e ▸ hx)
      simpa using hne
     rw [hf]
     simp only [List.map_append, List.map_cons, List.map_nil]
     rw [leastK_snoc_new ds d h]
     congr 1
     refine List.map_congr_left fun x hx => ?_
     rw [leastK_snoc_other ds d (fun e => h (e ▸ hx))]
end Go.Proofs.YtgeklmigfhhpfaaGreatDoor
namespace Go.Proofs.YtgeklmigfhhpfaaGreatDoor
open Go.RowKit
inductive Twin {α β : Type} (R : α → β → Prop) : List α → List β → Prop
 | nil : Twin R [] []
 | cons {a : α} {b : β} {l : List α} {m : List β} : R a b → Twin R l m → Twin R (a :: l) (b :: m)
section
variable {α β γ δ : Type} {R : α → β → Prop} {T : γ → δ → Prop}
theorem Twin.append {l l' : List α} {m m' : List β} (h : Twin R l m) (k : Twin R l' m') : Twin R (l ++ l') (m ++ m') := by
 induction h with
 | nil => exact k
 | cons r _ ih => exact .cons r ih
theorem Twin.length {l : List α} {m : List β} (h : Twin R l m) : l.length = m.length := by
 induction h with
 | nil => rfl
 | cons _ _ ih => simp [ih]
theorem Twin.mono {R' : α → β → Prop} {l : List α} {m : List β} (h : Twin R l m) (hr : ∀ a ∈ l, ∀ b ∈ m, R a b → R' a b) : Twin R' l m := by
 induction h with
 | nil => exact .nil
 | cons r _ ih => exact .cons (hr _ (by simp) _ (by simp) r) (ih fun a ha b hb => hr a (List.mem_cons_of_mem _ ha) b (List.mem_cons_of_mem _ hb))
theorem Twin.map {f : α → γ} {g : β → δ} {l : List α} {m : List β} (h : Twin R l m) (hr : ∀ a ∈ l, ∀ b ∈ m, R a b → T (f a) (g b)) : Twin T (l.map f) (m.map g) := by
 induction h with
 | nil => exact .nil
 | cons r _ ih => exact .cons (hr _ (by simp) _ (by simp) r) (ih fun a ha b hb => hr a (List.mem_cons_of_mem _ ha) b (List.mem_cons_of_mem _ hb))
theorem Twin.filterMap {f : α → Option γ} {g : β → Option δ} {l : List α} {m : List β} (h : Twin R l m) (hr : ∀ a ∈ l, ∀ b ∈ m, R a b → (f a = none ∧ g b = none) ∨ ∃ x y, f a = some x ∧ g b = some y ∧ T x y) : Twin T (l.filterMap f) (m.filterMap g) := by
 induction h with
 | nil => exact .nil
 | cons r _ ih =>
   have ih' := ih fun a ha b hb => hr a (List.mem_cons_of_mem _ ha) b (List.mem_cons_of_mem _ hb)
   rcases hr _ (by simp) _ (by simp) r with ⟨e1, e2⟩ | ⟨x, y, e1, e2, ht⟩
   · rw [List.filterMap_cons_none e1, List.filterMap_cons_none e2]
     exact ih'
   · rw [List.filterMap_cons_some e1, List.filterMap_cons_some e2]
     exact .cons ht ih'
theorem Twin.filter {p : α → Bool} {q : β → Bool} {l : List α} {m : List β} (h : Twin R l m) (hr : ∀ a ∈ l, ∀ b ∈ m, R a b → p a = q b) : Twin R (l.filter p) (m.filter q) := by
 induction h with
 | nil => exact .nil
 | @cons a b _ _ r _ ih =>
   have ih' := ih fun a ha b hb => hr a (List.mem_cons_of_mem _ ha) b (List.mem_cons_of_mem _ hb)
   have e := hr a (by simp) b (by simp) r
   rw [List.filter_cons, List.filter_cons, e]
   split
   · exact .cons r ih'
   · exact ih'
theorem Twin.flatMap {f : α → List γ} {g : β → List δ} {l : List α} {m : List β} (h : Twin R l m) (hr : ∀ a ∈ l, ∀ b ∈ m, R a b → Twin T (f a) (g b)) : Twin T (l.flatMap f) (m.flatMap g) := by
 induction h with
 | nil => exact .nil
 | cons r _ ih =>
   rw [List.flatMap_cons, List.flatMap_cons]
   exact (hr _ (by simp) _ (by simp) r).append (ih fun a ha b hb => hr a (List.mem_cons_of_mem _ ha) b (List.mem_cons_of_mem _ hb))
theorem Twin.findIdx {p : α → Bool} {q : β → Bool} {l : List α} {m : List β} (h : Twin R l m) (hr : ∀ a ∈ l, ∀ b ∈ m, R a b → p a = q b) : l.findIdx? p = m.findIdx? q := by
 induction h with
 | nil => rfl
 | @cons a b _ _ r _ ih =>
   rw [List.findIdx?_cons, List.findIdx?_cons, hr a (by simp) b (by simp) r, ih fun a ha b hb => hr a (List.mem_cons_of_mem _ ha) b (List.mem_cons_of_mem _ hb)]
theorem Twin.modify {f : α → α} {g : β → β} {l : List α} {m : List β} (h : Twin R l m) (hr : ∀ a b, R a b → R (f a) (g b)) (k : Nat) : Twin R (l.modify k f) (m.modify k g) := by
 induction h generalizing k with
 | nil => simpa using Twin.nil
 | cons r t ih =>
   cases k with
   | zero => simpa using Twin.cons (hr _ _ r) t
   | succ k => simpa using Twin.cons r (ih k)
theorem Twin.eq {S : α → β → Prop} {l : List α} {m m' : List β} (h : Twin R l m) (k : Twin S l m') (hr : ∀ a ∈ l, ∀ b b', R a b → S a b' → b = b') : m = m' := by
 induction h generalizing m' with
 | nil => cases k; rfl
 | cons r _ ih =>
   cases k with
   | cons s t => rw [hr _ (by simp) _ _ r s, ih t fun a ha => hr a (List.mem_cons_of_mem _ ha)]
end
theorem Twin.merge {K L : Type} [DecidableEq K] [DecidableEq L] {R : K → L → Prop} {ds : List (Int × K)} {es : List (Int × L)} (hR : ∀ k j k' j', R k k' → R j j' → (k = j ↔ k' = j')) (h : Twin (fun d e => d.1 = e.1 ∧ R d.2 e.2) ds es) :
  Twin (fun d e => d.1 = e.1 ∧ R d.2 e.2) (mergeAll ds) (mergeAll es) := by
 have hgo : ∀ {ds : List (Int × K)} {es : List (Int × L)}, Twin (fun d e => d.1 = e.1 ∧ R d.2 e.2) ds es → ∀ {acc : List (Int × K)} {bcc : List (Int × L)}, Twin (fun d e => d.1 = e.1 ∧ R d.2 e.2) acc bcc → Twin (fun d e => d.1 = e.1 ∧ R d.2 e.2) (ds.foldl mergeK acc) (es.foldl mergeK bcc) := by
  intro ds es h
  induction h with
  | nil => intro acc bcc ha; exact ha
  | @cons d e _ _ r _ ih =>
    intro acc bcc ha
    rw [List.foldl_cons, List.foldl_cons]
    refine ih ?_
    unfold mergeK
    have hf : acc.findIdx? (fun q => decide (q.2 = d.2)) = bcc.findIdx? (fun q => decide (q.2 = e.2)) := ha.findIdx fun a _ b _ hab => by
     rw [decide_eq_decide]
     exact hR _ _ _ _ hab.2 r.2
    rw [← hf]
    cases acc.findIdx? (fun q => decide (q.2 = d.2)) with
    | none => exact ha.append (.cons r .nil)
    | some k => exact Twin.modify (f := fun q => (min q.1 d.1, q.2)) (g := fun q => (min q.1 e.1, q.2)) ha (fun a b hab => ⟨by show min a.1 d.1 = min b.1 e.1; rw [hab.1, r.1], hab.2⟩) k
 exact hgo h .nil
def KeyX (X : ByteArray → Int) (ts : List (ByteArray × Int)) : Prop := FormX X 0 (0, ts)
theorem formX_iff {X : ByteArray → Int} {c : Int} {f : CondD} : FormX X c f ↔ c = f.1 ∧ KeyX X f.2 :=
 ⟨fun h => ⟨h.num.symm, rfl, h.ups, h.mem⟩, fun h => ⟨h.1.symm, h.2.ups, h.2.mem⟩⟩
theorem rowX_at : ∀ {l : List SideD} {cs : List Int} {k : Nat} {s : SideD}, Apart l → cs.length = l.length → l[k]? = some s → rowX l cs s.1 = cs.getD k 0
 | [], _, _, _, _, _, h => by simp at h
 | t :: l, [], _, _, _, h, _ => by simp at h
 | t :: l, c :: cs, 0, s, ha, hl, h => by
   obtain rfl := Option.some.inj h
   rw [rowX_cons, if_pos rfl]
   rfl
 | t :: l, c :: cs, k + 1, s, ha, hl, h => by
   obtain ⟨h1, h2⟩ := List.pairwise_cons.1 ha
   have hx : l[k]? = some s := by simpa using h
   rw [rowX_cons, if_neg (h1 s (List.mem_of_getElem? hx)), rowX_at h2 (by simpa using hl) hx]
   rfl
theorem keyX_inj {l : List SideD} {cs ds : List Int} {ts us : List (ByteArray × Int)} (ha : Apart l) (hne : ∀ s ∈ l, s.1 ≠ ByteArray.empty) (hc : cs.length = l.length) (hd : ds.length = l.length) (h : KeyX (rowX l cs) ts) (k : KeyX (rowX l ds) us) : cs = ds ↔ ts = us := by
 constructor
 · rintro rfl
   exact (Prod.mk.inj (formX_eq h k fun _ _ => rfl)).2
 · rintro rfl
   have hX : ∀ s ∈ l, rowX l cs s.1 = rowX l ds s.1 := fun s hs => by
    by_cases e : rowX l cs s.1 = 0
    · by_cases e2 : rowX l ds s.1 = 0
      · rw [e, e2]
      · exact absurd e (by
         have := ((h.mem s.1 _).1 ((k.mem s.1 _).2 ⟨hne s hs, e2, rfl⟩)).2.2
         rw [this]
         exact e2)
    · exact ((k.mem s.1 _).1 ((h.mem s.1 _).2 ⟨hne s hs, e, rfl⟩)).2.2.symm
   refine List.ext_getElem (by rw [hc, hd]) fun i h1 h2 => ?_
   have hi : l[i]? = some (l[i]'(by omega)) := List.getElem?_eq_getElem (by omega)
   have := hX _ (List.getElem_mem (by omega : i < l.length))
   rw [rowX_at ha hc hi, rowX_at ha hd hi] at this
   simpa [List.getD_eq_getElem?_getD, h1, h2] using this
theorem pairs_coefs : ∀ {l : List SideD} {cs : List Int}, cs.length = l.length → (pairsOf l cs).map Prod.snd = cs.filter fun c => c != 0
 | [], [], _ => rfl
 | [], _ :: _, h => by simp at h
 | _ :: _, [], h => by simp at h
 | s :: l, c :: cs, h => by
   have ih := pairs_coefs (l := l) (cs := cs) (by simpa using h)
   unfold pairsOf at ih ⊢
   rw [List.zip_cons_cons, List.filter_cons, List.filter_cons]
   by_cases e : c = 0
   · simp [e] at ih ⊢
     exact ih
   · simp [e] at ih ⊢
     exact ih
theorem perm_of_mem {α : Type} [DecidableEq α] : ∀ {a b : List α}, a.Nodup → b.Nodup → (∀ x, x ∈ a ↔ x ∈ b) → a.Perm b
 | [], b, _, _, h => by
   cases b with
   | nil => exact .nil
   | cons y b => have := (h y).2 (by simp); simp at this
 | x :: a, b, ha, hb, h => by
   obtain ⟨h1, h2⟩ := List.nodup_cons.1 ha
   have hx : x ∈ b := (h x).1 (by simp)
   refine (List.Perm.cons x (perm_of_mem h2 (hb.erase x) fun y => ?_)).trans (List.perm_cons_erase hx).symm
   rw [List.Nodup.mem_erase_iff hb]
   constructor
   · intro hy
     exact ⟨fun e => h1 (e ▸ hy), (h y).1 (List.mem_cons_of_mem _ hy)⟩
   · rintro ⟨hn, hy⟩
     rcases List.mem_cons.1 ((h y).2 hy) with e | e
     · exact absurd e hn
     · exact e
theorem nodup_of_apart {ts : List (ByteArray × Int)} (h : ts.Pairwise fun a b => a.1 ≠ b.1) : ts.Nodup := h.imp fun hab e => hab (by rw [e])
theorem ups_apart {ts : List (ByteArray × Int)} (h : Ups ts) : ts.Pairwise fun a b => a.1 ≠ b.1 := by
 unfold Ups at h
 refine h.imp ?_
 intro a b hab e
 rw [e] at hab
 exact upB_irrefl _ hab
theorem keyX_gcd {l : List SideD} {cs : List Int} {ts : List (ByteArray × Int)} (ha : Apart l) (hne : ∀ s ∈ l, s.1 ≠ ByteArray.empty) (hc : cs.length = l.length) (h : KeyX (rowX l cs) ts) : gcdL cs = gcdL (ts.map Prod.snd) := by
 have hp : ts.Perm (pairsOf l cs) := perm_of_mem (nodup_of_apart (ups_apart h.ups)) (nodup_of_apart (pairs_apart ha)) fun t => by
  obtain ⟨n, z⟩ := t
  rw [pairs_mem ha hc, h.mem n z]
  constructor
  · rintro ⟨_, h1, h2⟩; exact ⟨h1, h2⟩
  · rintro ⟨h1, h2⟩
    refine ⟨fun e => h1 ?_, h1, h2⟩
    rw [← h2]
    exact rowX_none fun s hs' => by rw [e]; exact hne s hs'
 rw [gcdL_perm (hp.map Prod.snd), pairs_coefs hc, gcdL_filter]
def divT (g : Int) (ts : List (ByteArray × Int)) : List (ByteArray × Int) := ts.map fun t => (t.1, t.2 / g)
theorem keyX_div {X : ByteArray → Int} {ts : List (ByteArray × Int)} {g : Int} (hd : ∀ t ∈ ts, g ∣ t.2) (h : KeyX X ts) : KeyX (fun n => X n / g) (divT g ts) := by
 refine ⟨rfl, List.pairwise_map.2 h.ups, fun n z => ?_⟩
 unfold divT
 simp only [List.mem_map]
 constructor
 · rintro ⟨⟨m, y⟩, hm, e⟩
   obtain ⟨rfl, rfl⟩ := Prod.mk.inj e
   obtain ⟨h1, h2, h3⟩ := (h.mem _ _).1 hm
   have hdv := hd _ hm
   refine ⟨h1, fun e2 => h2 ?_, by rw [h3]⟩
   simp only at e2 hdv
   have := Int.ediv_mul_cancel hdv
   rw [e2] at this
   omega
 · rintro ⟨h1, h2, h3⟩
   have hX : X n ≠ 0 := fun e => h2 (by rw [← h3, e]; simp)
   exact ⟨(n, X n), (h.mem _ _).2 ⟨h1, hX, rfl⟩, by rw [← h3]⟩
def RowF (l : List SideD) (r : RowD) (f : CondD) : Prop := r.2.length = l.length ∧ FormX (rowX l r.2) r.1 f
def tightR (r : RowD) : Option (Int × List Int) := if gcdL r.2 = 0 then (if 0 ≤ r.1 then none else some r) else some (divR r)
def tightF (f : CondD) : Option (Int × List (ByteArray × Int)) := if gcdL (f.2.map Prod.snd) = 0 then (if 0 ≤ f.1 then none else some f) else some (f.1 / (gcdL (f.2.map Prod.snd) : Int), divT (gcdL (f.2.map Prod.snd) : Int) f.2)
theorem tight_twin {l : List SideD} (ha : Apart l) (hne : ∀ s ∈ l, s.1 ≠ ByteArray.empty) {rs : List RowD} {fs : List CondD} (h : Twin (RowF l) rs fs) : Twin (RowF l) (mergeAll (rs.filterMap tightR)) (mergeAll (fs.filterMap tightF)) := by
 have h1 : Twin (fun (d : Int × List Int) (e : Int × List (ByteArray × Int)) => d.1 = e.1 ∧ (d.2.length = l.length ∧ KeyX (rowX l d.2) e.2)) (rs.filterMap tightR) (fs.filterMap tightF) := by
  refine h.filterMap fun r _ f _ hrf => ?_
  obtain ⟨hl, hf⟩ := hrf
  obtain ⟨e1, hk⟩ := formX_iff.1 hf
  have hg := keyX_gcd ha hne hl hk
  unfold tightR tightF
  rw [← hg, ← e1]
  by_cases h0 : gcdL r.2 = 0
  · rw [if_pos h0, if_pos h0]
    by_cases hz : 0 ≤ r.1
    · rw [if_pos hz, if_pos hz]
      exact .inl ⟨rfl, rfl⟩
    · rw [if_neg hz, if_neg hz]
      exact .inr ⟨r, f, rfl, rfl, e1, hl, hk⟩
  · rw [if_neg h0, if_neg h0]
    refine .inr ⟨_, _, rfl, rfl, ?_, ?_, ?_⟩
    · unfold divR
      rw [if_neg h0]
    · unfold divR
      rw [if_neg h0]
      simpa using hl
    · unfold divR
      rw [if_neg h0]
      have hk2 := keyX_div (g := (gcdL r.2 : Int)) (fun t ht => by rw [hg]; exact gcdL_dvd (List.mem_map.2 ⟨t, ht, rfl⟩)) hk
      refine ⟨rfl, hk2.ups, fun n z => ?_⟩
      rw [hk2.mem n z]
      simp only
      rw [rowX_map (f := fun c => c / (gcdL r.2 : Int)) (by simp) l r.2 n hl]
 have h2 := h1.merge (R := fun (cs : List Int) (ts : List (ByteArray × Int)) => cs.length = l.length ∧ KeyX (rowX l cs) ts) fun k j k' j' hk hj => keyX_inj ha hne hk.1 hj.1 hk.2 hj.2
 exact h2.mono fun r _ f _ hrf => ⟨hrf.2.1, formX_iff.2 ⟨hrf.1, hrf.2.2⟩⟩
end Go.Proofs.YtgeklmigfhhpfaaGreatDoor
namespace Go.Proofs.YtgeklmigfhhpfaaGreatDoor
open Go.RowKit
theorem formX_coef {X : ByteArray → Int} {c : Int} {f : CondD} (h : FormX X c f) {n : ByteArray} (hn : n ≠ ByteArray.empty) : coefX f.2 n = X n := by
 by_cases hx : X n = 0
 · rw [hx]
   by_cases hc : coefX f.2 n = 0
   · exact hc
   · have := ((h.mem n _).1 (coefX_hit hc)).2.2
     rw [hx] at this
     exact this.symm
 · exact coefX_mem (ups_apart h.ups) ((h.mem n _).2 ⟨hn, hx, rfl⟩)
def sumR (r : RowD) (a : Int) (q : RowD) (b : Int) : RowD := (a * r.1 + b * q.1, List.zipWith (fun x y => a * x + b * y) r.2 q.2)
def withoutR (k : Nat) (r : RowD) : RowD := (r.1, r.2.eraseIdx k)
def coefAt (k : Nat) (r : RowD) : Int := r.2.getD k 0
def combsR (k : Nat) (ls ms : List RowD) : List RowD := ls.flatMap fun r => ms.map fun q => sumR r (-(coefAt k q)) q (coefAt k r)
def elimR (k : Nat) (rs : List RowD) : List RowD := (rs.filter fun r => decide (coefAt k r = 0)) ++ combsR k (rs.filter fun r => decide (0 < coefAt k r)) (rs.filter fun r => decide (coefAt k r < 0))
def CombF (n0 : ByteArray) (p : CondD × CondD) (h : CondD) : Prop := FormX (fun n => -(coefX p.2.2 n0) * coefX p.1.2 n + coefX p.1.2 n0 * coefX p.2.2 n) (-(coefX p.2.2 n0) * p.1.1 + coefX p.1.2 n0 * p.2.1) h
def pairsFG (ls ms : List CondD) : List (CondD × CondD) := ls.flatMap fun f => ms.map fun g => (f, g)
def ElimF (n0 : ByteArray) (all out : List CondD) : Prop := ∃ hs, out = (all.filter fun f => decide (coefX f.2 n0 = 0)) ++ hs ∧ Twin (CombF n0) (pairsFG (all.filter fun f => decide (0 < coefX f.2 n0)) (all.filter fun f => decide (coefX f.2 n0 < 0))) hs
theorem Twin.comp {α β γ : Type} {R : α → β → Prop} {S : β → γ → Prop} {T : α → γ → Prop} {l : List α} {m : List β} {o : List γ} (h : Twin R l m) (k : Twin S m o) (hr : ∀ a ∈ l, ∀ b ∈ m, ∀ c, R a b → S b c → T a c) : Twin T l o := by
 induction h generalizing o with
 | nil => cases k; exact .nil
 | cons r _ ih =>
   cases k with
   | cons s t => exact .cons (hr _ (by simp) _ (by simp) _ r s) (ih t fun a ha b hb => hr a (List.mem_cons_of_mem _ ha) b (List.mem_cons_of_mem _ hb))
section
variable {l : List SideD} {k : Nat} {s : SideD}
theorem coef_row (ha : Apart l) (hk : l[k]? = some s) (hs : s.1 ≠ ByteArray.empty) {r : RowD} {f : CondD} (h : RowF l r f) : coefAt k r = coefX f.2 s.1 := by
 unfold coefAt
 rw [formX_coef h.2 hs, rowX_at ha h.1 hk]
theorem rowF_erase (ha : Apart l) (hk : l[k]? = some s) {r : RowD} {X : ByteArray → Int} {f : CondD} (hl : r.2.length = l.length) (h : FormX X r.1 f) (hX : ∀ n, n ≠ ByteArray.empty → X n = if s.1 = n then 0 else rowX l r.2 n) : RowF (l.eraseIdx k) (withoutR k r) f := by
 have hkl := (List.getElem?_eq_some_iff.1 hk).1
 refine ⟨by unfold withoutR; simp only [List.length_eraseIdx, hl], h.num, h.ups, fun n z => ?_⟩
 rw [h.mem n z]
 unfold withoutR
 simp only
 rw [rowX_erase l r.2 k s n ha hl hk]
 constructor
 · rintro ⟨h1, h2, h3⟩
   exact ⟨h1, h2, by rw [← hX n h1]; exact h3⟩
 · rintro ⟨h1, h2, h3⟩
   exact ⟨h1, h2, by rw [hX n h1]; exact h3⟩
theorem sum_length {r q : RowD} {a b : Int} (h1 : r.2.length = l.length) (h2 : q.2.length = l.length) : (sumR r a q b).2.length = l.length := by
 unfold sumR
 simp [h1, h2]
theorem elim_twin (ha : Apart l) (hk : l[k]? = some s) (hs : s.1 ≠ ByteArray.empty) {rs : List RowD} {all out : List CondD} (h : Twin (RowF l) rs all) (he : ElimF s.1 all out) : Twin (RowF (l.eraseIdx k)) ((elimR k rs).map (withoutR k)) out := by
 obtain ⟨hs', rfl, ht⟩ := he
 unfold elimR
 rw [List.map_append]
 refine Twin.append ?_ ?_
 · have h1 := h.filter (p := fun r => decide (coefAt k r = 0)) (q := fun f => decide (coefX f.2 s.1 = 0)) fun r _ f _ hrf => by rw [coef_row ha hk hs hrf]
   have h2 : Twin (RowF (l.eraseIdx k)) ((rs.filter fun r => decide (coefAt k r = 0)).map (withoutR k)) ((all.filter fun f => decide (coefX f.2 s.1 = 0)).map id) := h1.map fun r hr f _ hrf => by
    have h0 := of_decide_eq_true (List.mem_filter.1 hr).2
    refine rowF_erase ha hk hrf.1 hrf.2 fun n _ => ?_
    by_cases e : s.1 = n
    · rw [if_pos e, ← e, rowX_at ha hrf.1 hk]
      exact h0
    · rw [if_neg e]
   rwa [List.map_id] at h2
 · have h1 := h.filter (p := fun r => decide (0 < coefAt k r)) (q := fun f => decide (0 < coefX f.2 s.1)) fun r _ f _ hrf => by rw [coef_row ha hk hs hrf]
   have h2 := h.filter (p := fun r => decide (coefAt k r < 0)) (q := fun f => decide (coefX f.2 s.1 < 0)) fun r _ f _ hrf => by rw [coef_row ha hk hs hrf]
   have h3 : Twin (fun (p : RowD × RowD) (q : CondD × CondD) => RowF l p.1 q.1 ∧ RowF l p.2 q.2) ((rs.filter fun r => decide (0 < coefAt k r)).flatMap fun r => (rs.filter fun r => decide (coefAt k r < 0)).map fun q => (r, q)) (pairsFG (all.filter fun f => decide (0 < coefX f.2 s.1)) (all.filter fun f => decide (coefX f.2 s.1 < 0))) :=
    h1.flatMap fun r _ f _ hrf => h2.map fun q _ g _ hqg => ⟨hrf, hqg⟩
   have h4 : (combsR k (rs.filter fun r => decide (0 < coefAt k r)) (rs.filter fun r => decide (coefAt k r < 0))).map (withoutR k) = ((rs.filter fun r => decide (0 < coefAt k r)).flatMap fun r => (rs.filter fun r => decide (coefAt k r < 0)).map fun q => (r, q)).map fun p => withoutR k (sumR p.1 (-(coefAt k p.2)) p.2 (coefAt k p.1)) := by
    unfold combsR
    rw [List.map_flatMap, List.map_flatMap]
    congr 1
    funext r
    rw [List.map_map, List.map_map]
    rfl
   rw [h4]
   have h5 : Twin (fun (p : RowD × RowD) (h : CondD) => RowF (l.eraseIdx k) (withoutR k (sumR p.1 (-(coefAt k p.2)) p.2 (coefAt k p.1))) h) ((rs.filter fun r => decide (0 < coefAt k r)).flatMap fun r => (rs.filter fun r => decide (coefAt k r < 0)).map fun q => (r, q)) hs' := h3.comp ht fun p _ q _ g hpq hqg => by
    obtain ⟨r, t⟩ := p
    obtain ⟨f, u⟩ := q
    obtain ⟨hrf, htu⟩ := hpq
    simp only at hrf htu ⊢
    unfold CombF at hqg
    simp only at hqg
    rw [← coef_row ha hk hs hrf, ← coef_row ha hk hs htu] at hqg
    refine rowF_erase ha hk (sum_length hrf.1 htu.1) (X := fun n => -(coefAt k t) * coefX f.2 n + coefAt k r * coefX u.2 n) ?_ fun n hn => ?_
    · have e1 := hrf.2.num
      have e2 := htu.2.num
      unfold sumR
      simp only
      rw [← e1, ← e2]
      exact hqg
    · rw [formX_coef hrf.2 hn, formX_coef htu.2 hn]
      by_cases e : s.1 = n
      · rw [if_pos e, ← e, rowX_at ha hrf.1 hk, rowX_at ha htu.1 hk]
        unfold coefAt
        rw [Int.neg_mul, Int.mul_comm (r.2.getD k 0)]
        omega
      · rw [if_neg e]
        unfold sumR
        simp only
        rw [rowX_sum _ _ l r.2 t.2 n hrf.1 htu.1]
   have h6 : Twin (RowF (l.eraseIdx k)) (((rs.filter fun r => decide (0 < coefAt k r)).flatMap fun r => (rs.filter fun r => decide (coefAt k r < 0)).map fun q => (r, q)).map fun p => withoutR k (sumR p.1 (-(coefAt k p.2)) p.2 (coefAt k p.1))) (hs'.map id) := h5.map fun _ _ _ _ h => h
   rwa [List.map_id] at h6
def PutF (n0 : ByteArray) (by_ : CondD) (f h : CondD) : Prop := FormX (fun n => if n0 = n then 0 else coefX f.2 n + coefX f.2 n0 * coefX by_.2 n) (f.1 + coefX f.2 n0 * by_.1) h
theorem put_twin (ha : Apart l) (hk : l[k]? = some s) (hs : s.1 ≠ ByteArray.empty) {rs : List RowD} {all out : List CondD} {pr : RowD} {pf : CondD} (hp : RowF l pr pf) (h : Twin (RowF l) rs all) (he : Twin (PutF s.1 pf) all out) :
  Twin (RowF (l.eraseIdx k)) ((rs.map fun r => sumR r 1 pr (coefAt k r)).map (withoutR k)) out := by
 rw [List.map_map]
 have h1 : Twin (fun (r : RowD) (g : CondD) => RowF (l.eraseIdx k) (withoutR k (sumR r 1 pr (coefAt k r))) g) rs out := h.comp he fun r _ f _ g hrf hfg => by
  unfold PutF at hfg
  rw [← coef_row ha hk hs hrf] at hfg
  refine rowF_erase ha hk (sum_length hrf.1 hp.1) (X := fun n => if s.1 = n then 0 else coefX f.2 n + coefAt k r * coefX pf.2 n) ?_ fun n hn => ?_
  · have e1 := hrf.2.num
    have e2 := hp.2.num
    unfold sumR
    simp only
    rw [← e1, ← e2, Int.one_mul]
    exact hfg
  · by_cases e : s.1 = n
    · rw [if_pos e, if_pos e]
    · rw [if_neg e, if_neg e, formX_coef hrf.2 hn, formX_coef hp.2 hn]
      unfold sumR
      simp only
      rw [rowX_sum _ _ l r.2 pr.2 n hrf.1 hp.1, Int.one_mul]
 have h2 : Twin (RowF (l.eraseIdx k)) (rs.map (fun r => withoutR k (sumR r 1 pr (coefAt k r)))) (out.map id) := h1.map fun _ _ _ _ h => h
 rw [List.map_id] at h2
 exact h2
end
end Go.Proofs.YtgeklmigfhhpfaaGreatDoor
namespace Go.Proofs.YtgeklmigfhhpfaaGreatDoor
open Go.RowKit
structure MadeR (w0 w : World) (Rs Rb Cb : Nat) (c : Int) (n : Nat) (cs : List Int) : Prop where
 grown : w0.grownBy w none
 newS : w0.heap.size ≤ Rs
 newR : Rs < Rb
 newC : Rs < Cb
 ne : Rb ≠ Cb
 row : w.heap[Rb]? = some (.cells #[.int .i64 c, .slice (some ⟨Cb, 0, none⟩) n n] 86 (0, 0))
 cells : w.heap[Cb]? = some (.cells (cs.map (Value.int .i64)).toArray 3 (0, 0))
 len : cs.length = n
 res : w.heap[Rs]? = some (.cells #[.int .i64 0, .slice none 0 0] 86 (0, 0))
theorem madeR_a {w0 v : World} {Rs b : Nat} (c : Int) (n : Nat) (hg : w0.grownBy v none) (hs : w0.heap.size ≤ Rs) (hr : v.heap[Rs]? = some (.cells #[.int .i64 0, .slice none 0 0] 86 (0, 0))) (hb : v.heap.size = b) :
  MadeR w0 (((v.alloc (.cells (zeros n) 3)).alloc (.cells #[.int .i64 c, .slice (some ⟨b, 0, none⟩) n n] 86)).drew) Rs (b + 1) b c n (List.replicate n 0) := by
 subst hb
 have hlt := (Array.getElem?_eq_some_iff.1 hr).1
 have hh : (((v.alloc (.cells (zeros n) 3)).alloc (.cells #[.int .i64 c, .slice (some ⟨v.heap.size, 0, none⟩) n n] 86)).drew).heap = (v.heap.push (.cells (zeros n) 3)).push (.cells #[.int .i64 c, .slice (some ⟨v.heap.size, 0, none⟩) n n] 86) := rfl
 refine ⟨gT hg (gT (gA _ _ _) (grown_ad _ _ _)), hs, by omega, by omega, by omega, ?_, ?_, by simp, ?_⟩
 · rw [hh]
   simp only [Array.getElem?_push, Array.size_push]
   rw [if_pos trivial]
 · rw [hh]
   simp only [Array.getElem?_push, Array.size_push]
   rw [if_neg (by omega), if_pos trivial]
   simp [zeros]
 · rw [hh]
   simp only [Array.getElem?_push, Array.size_push]
   rw [if_neg (by omega), if_neg (by omega)]
   exact hr
theorem madeR_b {w0 v : World} {Rs b : Nat} (c : Int) (n : Nat) (hg : w0.grownBy v none) (hs : w0.heap.size ≤ Rs) (hr : v.heap[Rs]? = some (.cells #[.int .i64 0, .slice none 0 0] 86 (0, 0))) (hb : v.heap.size = b) :
  MadeR w0 (((v.alloc (.cells #[.int .i64 c, .slice (some ⟨b + 1, 0, none⟩) n n] 86)).alloc (.cells (zeros n) 3)).drew) Rs b (b + 1) c n (List.replicate n 0) := by
 subst hb
 have hlt := (Array.getElem?_eq_some_iff.1 hr).1
 have hh : (((v.alloc (.cells #[.int .i64 c, .slice (some ⟨v.heap.size + 1, 0, none⟩) n n] 86)).alloc (.cells (zeros n) 3)).drew).heap = (v.heap.push (.cells #[.int .i64 c, .slice (some ⟨v.heap.size + 1, 0, none⟩) n n] 86)).push (.cells (zeros n) 3) := rfl
 refine ⟨gT hg (gT (gA _ _ _) (grown_ad _ _ _)), hs, by omega, by omega, by omega, ?_, ?_, by simp, ?_⟩
 · rw [hh]
   simp only [Array.getElem?_push, Array.size_push]
   rw [if_neg (by omega), if_pos trivial]
 · rw [hh]
   simp only [Array.getElem?_push, Array.size_push]
   rw [if_pos trivial]
   simp [zeros]
 · rw [hh]
   simp only [Array.getElem?_push, Array.size_push]
   rw [if_neg (by omega), if_neg (by omega)]
   exact hr
theorem MadeR.kept {w0 w w' : World} {Rs Rb Cb : Nat} {c : Int} {n : Nat} {cs : List Int} (h : MadeR w0 w Rs Rb Cb c n cs) (hg : w.grownBy w' none) : MadeR w0 w' Rs Rb Cb c n cs :=
 ⟨gT h.grown hg, h.newS, h.newR, h.newC, h.ne, kH h.row hg (by simp), kH h.cells hg (by simp), h.len, kH h.res hg (by simp)⟩
theorem MadeR.set {w0 w : World} {Rs Rb Cb : Nat} {c : Int} {n : Nat} {cs : List Int} (h : MadeR w0 w Rs Rb Cb c n cs) (i : Nat) (z : Int) : MadeR w0 (w.setCell ⟨Cb, i, none⟩ (.int .i64 z)) Rs Rb Cb c n (cs.set i z) := by
 have hg := gS w Cb i (.int .i64 z)
 have h1 := h.newC
 have h2 := h.newS
 have h3 := h.ne
 refine ⟨gO h.grown hg (fun k hk => by cases hk; omega), h.newS, h.newR, h.newC, h.ne, kH h.row hg (by simp; omega), ?_, by simp [h.len], kH h.res hg (by simp; omega)⟩
 show (w.heap.modify Cb _)[Cb]? = _
 rw [Array.getElem?_modify, if_pos rfl, h.cells]
 simp [List.map_set]
theorem MadeR.cell {w0 w : World} {Rs Rb Cb : Nat} {c : Int} {n : Nat} {cs : List Int} (h : MadeR w0 w Rs Rb Cb c n cs) {q : Nat} (hq : q < cs.length) : ∃ x, w.cell? ⟨Cb, q, none⟩ = some (.int .i64 x) ∧ w.frozen? ⟨Cb, q, none⟩ = false :=
 ⟨cs[q], by simp [World.cell?, h.cells, hq], by simp [World.frozen?, h.cells]⟩
theorem MadeR.r0 {w0 w : World} {Rs Rb Cb : Nat} {c : Int} {n : Nat} {cs : List Int} (h : MadeR w0 w Rs Rb Cb c n cs) : w.cell? ⟨Rb, 0, none⟩ = some (.int .i64 c) := by simp [World.cell?, h.row]
theorem MadeR.r1 {w0 w : World} {Rs Rb Cb : Nat} {c : Int} {n : Nat} {cs : List Int} (h : MadeR w0 w Rs Rb Cb c n cs) : w.cell? ⟨Rb, 1, none⟩ = some (.slice (some ⟨Cb, 0, none⟩) n n) := by simp [World.cell?, h.row]
theorem MadeR.s0 {w0 w : World} {Rs Rb Cb : Nat} {c : Int} {n : Nat} {cs : List Int} (h : MadeR w0 w Rs Rb Cb c n cs) : w.cell? ⟨Rs, 0, none⟩ = some (.int .i64 0) := by simp [World.cell?, h.res]
theorem MadeR.s1 {w0 w : World} {Rs Rb Cb : Nat} {c : Int} {n : Nat} {cs : List Int} (h : MadeR w0 w Rs Rb Cb c n cs) : w.cell? ⟨Rs, 1, none⟩ = some (.slice none 0 0) := by simp [World.cell?, h.res]
theorem MadeR.sf {w0 w : World} {Rs Rb Cb : Nat} {c : Int} {n : Nat} {cs : List Int} (h : MadeR w0 w Rs Rb Cb c n cs) (k : Nat) : w.frozen? ⟨Rs, k, none⟩ = false := by simp [World.frozen?, h.res]
theorem madeR_end {w0 w : World} {Rs Rb Cb : Nat} {c : Int} {n : Nat} {cs : List Int} (h : MadeR w0 w Rs Rb Cb c n cs) :
  let w' := (w.setCell ⟨Rs, 0, none⟩ (.int .i64 c)).setCell ⟨Rs, 1, none⟩ (.slice (some ⟨Cb, 0, none⟩) n n)
  w'.heap[Rs]? = some (.cells #[.int .i64 c, .slice (some ⟨Cb, 0, none⟩) n n] 86 (0, 0)) ∧ RowOfPost c n cs w0 (.returned (.agg #[.int .i64 c, .slice (some ⟨Cb, 0, none⟩) n n])) w' := by
 have hg : w.grownBy ((w.setCell ⟨Rs, 0, none⟩ (.int .i64 c)).setCell ⟨Rs, 1, none⟩ (.slice (some ⟨Cb, 0, none⟩) n n)) (some Rs) := gT (gS _ _ _ _) (gS _ _ _ _)
 have hr := h.res
 have h1 := h.newC
 have h2 := h.newS
 refine ⟨by simp [World.setCell, Array.getElem?_modify, hr], Cb, rfl, by omega, ?_, gO h.grown hg (fun k hk => by cases hk; omega)⟩
 exact kH h.cells hg (by simp; omega)
theorem three_new (w : World) (a b c : Obj) : (((w.alloc a).alloc b).alloc c).heap[w.heap.size]? = some a ∧ (((w.alloc a).alloc b).alloc c).heap[w.heap.size + 1]? = some b ∧ (((w.alloc a).alloc b).alloc c).heap[w.heap.size + 1 + 1]? = some c ∧ w.grownBy (((w.alloc a).alloc b).alloc c) none := by
 refine ⟨?_, ?_, ?_, gT (gA _ _ _) (gT (gA _ _ _) (gA _ _ _))⟩
 · show (((w.heap.push _).push _).push _)[w.heap.size]? = _
   simp only [Array.getElem?_push, Array.size_push]
   rw [if_neg (by omega), if_neg (by omega), if_pos trivial]
 · show (((w.heap.push _).push _).push _)[w.heap.size + 1]? = _
   simp only [Array.getElem?_push, Array.size_push]
   rw [if_neg (by omega), if_pos trivial]
 · show (((w.heap.push _).push _).push _)[w.heap.size + 1 + 1]? = _
   simp only [Array.getElem?_push, Array.size_push]
   rw [if_pos trivial]
theorem cell_two {w : World} {g : Nat} {a b : Value} {T : TypeId} (h : w.heap[g]? = some (.cells #[a, b] T (0, 0))) : w.cell? ⟨g, 0, none⟩ = some a ∧ w.cell? ⟨g, 1, none⟩ = some b := ⟨by unfold World.cell?; rw [h]; rfl, by unfold World.cell?; rw [h]; rfl⟩
def sumTo (a b : Int) (rs qs : List Int) (k : Nat) : List Int := (List.zipWith (fun x y => a * x + b * y) rs qs).take k ++ List.replicate (rs.length - k) 0
theorem sumTo_next (a b : Int) {rs qs : List Int} {k : Nat} (h1 : k < rs.length) (h2 : k < qs.length) : sumTo a b rs qs (k + 1) = (sumTo a b rs qs k).set k (a * rs[k] + b * qs[k]) := by
 unfold sumTo
 have hz : (List.zipWith (fun x y => a * x + b * y) rs qs)[k]? = some (a * rs[k] + b * qs[k]) := by
  rw [List.getElem?_zipWith, List.getElem?_eq_getElem h1, List.getElem?_eq_getElem h2]
 obtain ⟨hk, e⟩ := List.getElem?_eq_some_iff.1 hz
 rw [List.take_succ_eq_append_getElem hk, e, show rs.length - k = (rs.length - (k + 1)) + 1 by omega, List.replicate_succ, List.set_append_right _ _ (by rw [List.length_take]; omega), List.length_take, Nat.min_eq_left (by omega), Nat.sub_self, List.set_cons_zero, List.append_assoc]
 rfl
theorem sumTo_all (a b : Int) {rs qs : List Int} (h : qs.length = rs.length) : sumTo a b rs qs rs.length = List.zipWith (fun x y => a * x + b * y) rs qs := by
 unfold sumTo
 rw [List.take_of_length_le (by rw [List.length_zipWith]; omega), Nat.sub_self]
 simp
def mid (x : Int) : Prop := -1000000000 ≤ x ∧ x ≤ 1000000000
theorem mul_mid {a x : Int} (ha : mid a) (hx : mid x) : -1000000000000000000 ≤ a * x ∧ a * x ≤ 1000000000000000000 := by
 unfold mid at *
 have h : (a * x).natAbs ≤ 1000000000 * 1000000000 := by
  rw [Int.natAbs_mul]
  exact Nat.mul_le_mul (by omega) (by omega)
 omega
theorem wrap_near {x : Int} (h : -9223372036854775808 ≤ x ∧ x ≤ 9223372036854775807) : IntKind.i64.wrap x = x := by
 rw [IntKind.wrap_i64]
 omega
theorem wrap_sum {x y : Int} (hx : -1000000000000000000 ≤ x ∧ x ≤ 1000000000000000000) (hy : -1000000000000000000 ≤ y ∧ y ≤ 1000000000000000000) : IntKind.i64.wrap (IntKind.i64.wrap x + IntKind.i64.wrap y) = x + y := by
 rw [wrap_near (x := x) (by omega), wrap_near (x := y) (by omega), wrap_near (by omega)]
set_option maxRecDepth 100000 in
set_option maxHeartbeats 4000000 in
theorem sum_any (r q : RowD) (a b : Int) (rv qv : Value) (w : World) (hr : IntsAt w rv r.2) (hq : IntsAt w qv q.2) (hl : q.2.length = r.2.length) (hn : r.2.length ≤ 1000) (ha : mid a) (hb : mid b) (hr1 : mid r.1) (hq1 : mid q.1) (hrs : ∀ x ∈ r.2, mid x) (hqs : ∀ x ∈ q.2, mid x) :
  Calls Tryz.prog 57 #[.agg #[.int .i64 r.1, rv], .int .i64 a, .agg #[.int .i64 q.1, qv], .int .i64 b] w (RowOfPost (a * r.1 + b * q.1) r.2.length (List.zipWith (fun x y => a * x + b * y) r.2 q.2) w) := by
 obtain ⟨pr, rcap, rfl, hrl, hrc⟩ := id hr
 obtain ⟨pq, qcap, rfl, hql, hqc⟩ := id hq
 have HR := uH hrc
 have HQ := uH hqc
 have HL := uH hl
 have HRs := uH hrs
 have HQs := uH hqs
 have HA := uH ha
 have HB := uH hb
 have m1 := mul_mid ha hr1
 have m2 := mul_mid hb hq1
 have hmk := run_make_ints r.2.length (by omega)
 clear hr hq hrc hqc hl hrs hqs ha hb hr1 hq1
 obtain ⟨rn, rs⟩ := r
 obtain ⟨qn, qs⟩ := q
 simp only at *
 go_enter Tryz.func57, Tryz.ntmps57
 go_upto_region 1 with fail
 have hx := three_new w (.cells #[.int .i64 rn, .slice pr rs.length rcap] 86) (.cells #[.int .i64 qn, .slice pq qs.length qcap] 86) (.cells #[.int .i64 0, .slice none 0 0] 86)
 have hb : (((w.alloc (.cells #[.int .i64 rn, .slice pr rs.length rcap] 86)).alloc (.cells #[.int .i64 qn, .slice pq qs.length qcap] 86)).alloc (.cells #[.int .i64 0, .slice none 0 0] 86)).heap.size = w.heap.size + 1 + 1 + 1 := by simp
 have HX := uH (And.intro (cell_two hx.1) (And.intro (cell_two hx.2.1) (And.intro hx.2.2.1 (And.intro hx.2.2.2 hb))))
 clear hx hb
 go_cut [9] (fun s9 wx => ∃ Rb Cb : Nat, s9 = .pointer (some ⟨Rb, 0, none⟩) ∧ Hid (MadeR w wx (w.heap.size + 1 + 1) Rb Cb (a * rn + b * qn) rs.length (List.replicate rs.length 0)) ∧ Hid (wx.cell? ⟨w.heap.size, 1, none⟩ = some (.slice pr rs.length rcap)) ∧ Hid (wx.cell? ⟨w.heap.size + 1, 1, none⟩ = some (.slice pq qs.length qcap)))
 case first =>
  have k0 := HX.out.1.1
  have k1 := HX.out.1.2
  have k2 := HX.out.2.1.1
  go_region_held3 (fun W => W.cell? ⟨w.heap.size, 0, none⟩ = some (.int .i64 rn) ∧ W.cell? ⟨w.heap.size, 1, none⟩ = some (.slice pr rs.length rcap) ∧ W.cell? ⟨w.heap.size + 1, 0, none⟩ = some (.int .i64 qn)) (go_keep) (first | fail)
  all_goals
   go_wp2_with fail
   go_meet
   case rel => rw [wrap_sum m1 m2]; first
    | exact ⟨_, _, rfl, madeR_a _ _ HX.out.2.2.2.1 (by omega) HX.out.2.2.1 HX.out.2.2.2.2, (gT (gA _ _ _) (grown_ad _ _ none)).cell HX.out.1.2 (by simp), (gT (gA _ _ _) (grown_ad _ _ none)).cell HX.out.2.1.2 (by simp)⟩
    | exact ⟨_, _, rfl, madeR_b _ _ HX.out.2.2.2.1 (by omega) HX.out.2.2.1 HX.out.2.2.2.2, (gT (gA _ _ _) (grown_ad _ _ none)).cell HX.out.1.2 (by simp), (gT (gA _ _ _) (grown_ad _ _ none)).cell HX.out.2.1.2 (by simp)⟩
 case rest =>
  obtain ⟨Rb, Cb, rfl, HM, HC1, HC2⟩ := hcut
  have r1 := HM.out.r1
  go_wp2
  go_loopw [28] (fun i wr => ∃ k : Nat, k ≤ rs.length ∧ i = .int .i64 k ∧ Hid (MadeR w wr (w.heap.size + 1 + 1) Rb Cb (a * rn + b * qn) rs.length (sumTo a b rs qs k)) ∧ Hid (wr.cell? ⟨w.heap.size, 1, none⟩ = some (.slice pr rs.length rcap)) ∧ Hid (wr.cell? ⟨w.heap.size + 1, 1, none⟩ = some (.slice pq qs.length qcap))) (fun i _ => rs.length - (intOf i).toNat)
  case atStart => exact ⟨0, Nat.zero_le _, rfl, HM.out, HC1.out, HC2.out⟩
  case round =>
   obtain ⟨k, hk, rfl, HM, HC1, HC2⟩ := hrel
   by_cases hlt : k < rs.length
   · have hlq : k < qs.length := by have := HL.out; omega
     have h0 := List.getElem?_eq_getElem hlt
     have h1 := List.getElem?_eq_getElem hlq
     obtain ⟨b1, o1, rfl, hx1, c1⟩ := HR.out k _ h0
     obtain ⟨b2, o2, rfl, hx2, c2⟩ := HQ.out k _ h1
     have c1' := HM.out.grown.cell c1 (by simp)
     have c2' := HM.out.grown.cell c2 (by simp)
     have n1 := mul_mid HA.out (HRs.out _ (List.getElem_mem hlt))
     have n2 := mul_mid HB.out (HQs.out _ (List.getElem_mem hlq))
     have HSt := uH (sumTo_next a b hlt hlq)
     have d1 := HC1.out
     have d2 := HC2.out
     have r1 := HM.out.r1
     obtain ⟨x0, e1, e2⟩ := HM.out.cell (q := k) (by rw [HM.out.len]; exact hlt)
     generalize rs[k] = x at *
     generalize qs[k] = y at *
     have hI1 : (k : Int) < (rs.length : Int) := by omega
     have hI2 : (k : Int) < (qs.length : Int) := by omega
     have hI0 : (0 : Int) ≤ (k : Int) := by omega
     clear h0 h1 c1 c2
     go_wp2
     go_still_tail 19, (by kernel_rfl)
     change wpList _ _ _ _ _ wr.drew
     have e1' : wr.drew.cell? ⟨Cb, k, none⟩ = some (.int .i64 x0) := e1
     have e2' : wr.drew.frozen? ⟨Cb, k, none⟩ = false := e2
     rw [wrap_sum n1 n2]
     go_wp2
     go_roundw
     case rel =>
      refine ⟨k + 1, by omega, by go_num, ?_, (gS _ Cb k _).cell (a := ⟨w.heap.size, 1, none⟩) d1 (by have := HM.out.newC; simp; omega), (gS _ Cb k _).cell (a := ⟨w.heap.size + 1, 1, none⟩) d2 (by have := HM.out.newC; simp; omega)⟩
      show MadeR _ _ _ _ _ _ _ _
      rw [HSt.out]
      exact (HM.out.kept (grown_d _ _)).set k _
     case measure => simp [intOf]; omega
   · obtain rfl : k = rs.length := by omega
     have r0 := HM.out.r0
     have r1 := HM.out.r1
     have s0 := HM.out.s0
     have s1 := HM.out.s1
     have sf := HM.out.sf
     go_wp2
     have hm := HM.out
     rw [sumTo_all a b HL.out] at hm
     obtain ⟨f1, f2⟩ := madeR_end hm
     exact bodyPost_end (results_cell_row rfl _ _ (w.heap.size + 1 + 1) _ _ _ _ rfl f1 Tryz.underlying86 rfl Tryz.infoRow2) rfl f2
end Go.Proofs.YtgeklmigfhhpfaaGreatDoor
