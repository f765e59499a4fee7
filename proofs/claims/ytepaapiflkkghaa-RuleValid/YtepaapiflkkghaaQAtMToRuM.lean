/- Texts that were joined: AtM, AtCm, RuM. -/
import Derived.Test.YtepaapiflkkghaaQBKToAtD
/- Attributes as mathematics: what is wrong with a list, the first of a kind, the rising list. -/
namespace Go.Proofs.Ytepaapiflkkghaa
set_option linter.unusedSimpArgs false
/-- The value of the first of a kind. -/
def getA : List Ar → Int → Option (List Nat)
  | [], _ => none
  | x :: l, k => if x.k = k then some x.v else getA l k
theorem getA_app : ∀ (l m : List Ar) (k : Int), getA (l ++ m) k = (getA l k).or (getA m k)
  | [], m, k => by simp [getA]
  | x :: l, m, k => by
    rw [List.cons_append, getA, getA]
    split
    · rfl
    · exact getA_app l m k
theorem getA_mem : ∀ {l : List Ar} {k : Int} {v : List Nat}, getA l k = some v → ∃ x ∈ l, x.k = k ∧ x.v = v
  | x :: l, k, v, h => by
    rw [getA] at h
    split at h
    · exact ⟨x, List.mem_cons_self, ‹_›, Option.some.inj h⟩
    · obtain ⟨y, hy, h⟩ := getA_mem h
      exact ⟨y, List.mem_cons_of_mem _ hy, h⟩
theorem getA_none : ∀ {l : List Ar} {k : Int}, getA l k = none → ∀ x ∈ l, x.k ≠ k
  | y :: l, k, h, x, hx => by
    rw [getA] at h
    split at h
    · cases h
    · rcases List.mem_cons.1 hx with rfl | hx
      · assumption
      · exact getA_none h x hx
theorem getA_own : ∀ {l : List Ar}, (l.map Ar.k).Nodup → ∀ x ∈ l, getA l x.k = some x.v
  | y :: l, hd, x, hx => by
    rw [List.map_cons, List.nodup_cons] at hd
    rw [getA]
    rcases List.mem_cons.1 hx with rfl | hx
    · rw [if_pos rfl]
    · rw [if_neg fun e => hd.1 (List.mem_map.2 ⟨x, hx, e.symm⟩)]
      exact getA_own hd.2 x hx
/-- Is the value one of its kind's? -/
def fitA (k : Int) (v : List Nat) : Bool :=
  if k = 2 ∨ k = 3 then decide (v.length ≤ 32) else if k = 4 then decide (v.length ≤ 64)
  else if v.length = 1 then (if k = 1 then decide (1 ≤ v.getD 0 0 ∧ v.getD 0 0 ≤ 4) else decide (v.getD 0 0 ≤ 1)) else false
/-- What is wrong with an element, those ahead of it given. -/
def badA (p : List Ar) (x : Ar) : Nat := if x.k < 1 ∨ 18 < x.k then 13 else if fitA x.k x.v = false then 4 else if (p.any fun y => y.k == x.k) = true then 1 else 0
def fltL : List Ar → List Ar → Nat
  | _, [] => 0
  | p, x :: r => if badA p x ≠ 0 then badA p x else fltL (p ++ [x]) r
def fltA (l : List Ar) : Nat := if 24 < l.length then 2 else fltL [] l
/-- An element as the document takes it. -/
def Ar.good (x : Ar) : Prop := 1 ≤ x.k ∧ x.k ≤ 18 ∧ fitA x.k x.v = true
def goodA (l : List Ar) : Prop := (∀ x ∈ l, x.good) ∧ (l.map Ar.k).Nodup
theorem badA_zero (p : List Ar) (x : Ar) : badA p x = 0 ↔ x.good ∧ ∀ y ∈ p, y.k ≠ x.k := by
  unfold badA Ar.good
  by_cases h1 : x.k < 1 ∨ 18 < x.k
  · rw [if_pos h1]
    exact ⟨fun h => absurd h (by decide), fun h => by omega⟩
  · rw [if_neg h1]
    by_cases h2 : fitA x.k x.v = false
    · rw [if_pos h2]
      exact ⟨fun h => absurd h (by decide), fun h => by rw [h2] at h; cases h.1.2.2⟩
    · rw [if_neg h2]
      have h2' : fitA x.k x.v = true := by simpa using h2
      by_cases h3 : (p.any fun y => y.k == x.k) = true
      · rw [if_pos h3]
        refine ⟨fun h => absurd h (by decide), fun h => ?_⟩
        obtain ⟨y, hy, e⟩ := List.any_eq_true.1 h3
        exact absurd (beq_iff_eq.1 e) (h.2 y hy)
      · rw [if_neg h3]
        refine ⟨fun _ => ⟨⟨by omega, by omega, h2'⟩, fun y hy e => h3 (List.any_eq_true.2 ⟨y, hy, beq_iff_eq.2 e⟩)⟩, fun _ => rfl⟩
theorem fltL_zero : ∀ (r p : List Ar), fltL p r = 0 ↔ (∀ x ∈ r, x.good) ∧ (r.map Ar.k).Nodup ∧ ∀ x ∈ r, ∀ y ∈ p, y.k ≠ x.k
  | [], p => by simp [fltL]
  | x :: r, p => by
    have ih := fltL_zero r (p ++ [x])
    have hb := badA_zero p x
    rw [fltL, List.map_cons, List.nodup_cons]
    by_cases h : badA p x = 0
    · rw [if_neg (by simpa using h), ih]
      have hx := hb.1 h
      constructor
      · rintro ⟨h1, h2, h3⟩
        refine ⟨fun y hy => ?_, ⟨fun hm => ?_, h2⟩, fun y hy z hz => ?_⟩
        · rcases List.mem_cons.1 hy with rfl | hy
          · exact hx.1
          · exact h1 y hy
        · obtain ⟨y, hy, e⟩ := List.mem_map.1 hm
          exact h3 y hy x (List.mem_append_right _ List.mem_cons_self) e.symm
        · rcases List.mem_cons.1 hy with rfl | hy
          · exact hx.2 z hz
          · exact h3 y hy z (List.mem_append_left _ hz)
      · rintro ⟨h1, ⟨h2, h3⟩, h4⟩
        refine ⟨fun y hy => h1 y (List.mem_cons_of_mem _ hy), h3, fun y hy z hz => ?_⟩
        rcases List.mem_append.1 hz with hz | hz
        · exact h4 y (List.mem_cons_of_mem _ hy) z hz
        · obtain rfl := List.mem_singleton.1 hz
          exact fun e => h2 (List.mem_map.2 ⟨y, hy, e.symm⟩)
    · rw [if_pos h]
      refine ⟨fun e => absurd e h, fun ⟨h1, _, h4⟩ => absurd (hb.2 ⟨h1 x List.mem_cons_self, fun y hy => h4 x List.mem_cons_self y hy⟩) h⟩
theorem fltA_zero (l : List Ar) : fltA l = 0 ↔ l.length ≤ 24 ∧ goodA l := by
  unfold fltA goodA
  split
  · exact ⟨fun h => absurd h (by decide), fun h => by omega⟩
  · rw [fltL_zero l []]
    exact ⟨fun h => ⟨by omega, h.1, h.2.1⟩, fun h => ⟨h.2.1, h.2.2, fun _ _ _ hy => absurd hy List.not_mem_nil⟩⟩
/-- By rising kinds. -/
def risN (l : List Ar) : Nat → List Ar
  | 0 => []
  | n + 1 => risN l n ++ (match getA l ((n : Int) + 1) with | some v => [⟨(n : Int) + 1, v⟩] | none => [])
def risA (l : List Ar) : List Ar := risN l 18
theorem risN_mem {l : List Ar} : ∀ {n : Nat} {x : Ar}, x ∈ risN l n ↔ (1 ≤ x.k ∧ x.k ≤ n) ∧ getA l x.k = some x.v
  | 0, x => by
    rw [risN]
    exact ⟨fun h => absurd h List.not_mem_nil, fun h => by omega⟩
  | n + 1, x => by
    rw [risN, List.mem_append, risN_mem]
    constructor
    · rintro (h | h)
      · exact ⟨by omega, h.2⟩
      · cases hg : getA l ((n : Int) + 1) with
        | none => rw [hg] at h; exact absurd h List.not_mem_nil
        | some v =>
          rw [hg] at h
          obtain rfl := List.mem_singleton.1 h
          exact ⟨by simp only; omega, hg⟩
    · rintro ⟨h1, h2⟩
      by_cases e : x.k = (n : Int) + 1
      · right
        rw [← e, h2]
        exact List.mem_singleton.2 (by cases x; rfl)
      · left
        exact ⟨by omega, h2⟩
theorem risA_mem {l : List Ar} {x : Ar} : x ∈ risA l ↔ (1 ≤ x.k ∧ x.k ≤ 18) ∧ getA l x.k = some x.v := risN_mem
theorem risN_rise (l : List Ar) : ∀ n, (risN l n).Pairwise fun a b => a.k < b.k
  | 0 => List.Pairwise.nil
  | n + 1 => by
    rw [risN, List.pairwise_append]
    refine ⟨risN_rise l n, ?_, fun a ha b hb => ?_⟩
    · cases getA l ((n : Int) + 1) with
      | none => exact List.Pairwise.nil
      | some v => exact List.pairwise_singleton _ _
    · have h1 := (risN_mem.1 ha).1
      cases hg : getA l ((n : Int) + 1) with
      | none => rw [hg] at hb; exact absurd hb List.not_mem_nil
      | some v =>
        rw [hg] at hb
        obtain rfl := List.mem_singleton.1 hb
        simp only
        omega
theorem risA_rise (l : List Ar) : (risA l).Pairwise fun a b => a.k < b.k := risN_rise l 18
theorem risA_nodup (l : List Ar) : ((risA l).map Ar.k).Nodup := by
  unfold List.Nodup
  rw [List.pairwise_map]
  exact (risA_rise l).imp fun h => Int.ne_of_lt h
theorem risN_len (l : List Ar) : ∀ n, (risN l n).length ≤ n
  | 0 => Nat.le_refl _
  | n + 1 => by
    have ih := risN_len l n
    rw [risN, List.length_append]
    cases getA l ((n : Int) + 1) <;> simp <;> omega
theorem risA_len (l : List Ar) : (risA l).length ≤ 18 := risN_len l 18
theorem risN_get (l : List Ar) (k : Int) : ∀ n : Nat, getA (risN l n) k = if 1 ≤ k ∧ k ≤ (n : Int) then getA l k else none
  | 0 => by
    rw [risN, getA, if_neg (by omega)]
  | n + 1 => by
    rw [risN, getA_app, risN_get l k n]
    by_cases h : 1 ≤ k ∧ k ≤ (n : Int)
    · rw [if_pos h, if_pos (by omega)]
      cases hg : getA l ((n : Int) + 1) with
      | none => simp [getA]
      | some v =>
        rw [getA, if_neg (by simp only; omega)]
        simp [getA]
    · rw [if_neg h, Option.none_or]
      by_cases e : k = (n : Int) + 1
      · subst e
        rw [if_pos (by omega)]
        cases hg : getA l ((n : Int) + 1) with
        | none => rfl
        | some v => rw [getA, if_pos rfl]
      · rw [if_neg (by omega)]
        cases hg : getA l ((n : Int) + 1) with
        | none => rfl
        | some v => rw [getA, if_neg (by simp only; omega)]; rfl
theorem risA_get (l : List Ar) (k : Int) : getA (risA l) k = if 1 ≤ k ∧ k ≤ 18 then getA l k else none := risN_get l k 18
theorem risN_congr {l m : List Ar} : ∀ {n : Nat}, (∀ k : Int, 1 ≤ k → k ≤ n → getA l k = getA m k) → risN l n = risN m n
  | 0, _ => rfl
  | n + 1, h => by
    rw [risN, risN, risN_congr fun k h1 h2 => h k h1 (by omega), h ((n : Int) + 1) (by omega) (by omega)]
theorem risA_congr {l m : List Ar} (h : ∀ k : Int, 1 ≤ k → k ≤ 18 → getA l k = getA m k) : risA l = risA m := risN_congr h
theorem risA_ris (l : List Ar) : risA (risA l) = risA l := risA_congr fun k h1 h2 => by rw [risA_get, if_pos ⟨h1, h2⟩]
theorem good_of_get {l : List Ar} (h : ∀ x ∈ l, x.good) {k : Int} {v : List Nat} (hg : getA l k = some v) : 1 ≤ k ∧ k ≤ 18 ∧ fitA k v = true := by
  obtain ⟨x, hx, rfl, rfl⟩ := getA_mem hg
  exact h x hx
/-- The rising list of what the document takes is one that it takes. -/
theorem risA_good {l : List Ar} (h : ∀ x ∈ l, x.good) : fltA (risA l) = 0 := by
  have hl := risA_len l
  refine (fltA_zero _).2 ⟨by omega, fun x hx => ?_, risA_nodup l⟩
  have hm := risA_mem.1 hx
  exact good_of_get h hm.2
/-- A list that rises already. -/
theorem rise_only : ∀ {l m : List Ar}, (l.Pairwise fun a b => a.k < b.k) → (m.Pairwise fun a b => a.k < b.k) → (∀ x, x ∈ l ↔ x ∈ m) → l = m
  | [], [], _, _, _ => rfl
  | [], y :: m, _, _, h => absurd ((h y).2 List.mem_cons_self) List.not_mem_nil
  | x :: l, [], _, _, h => absurd ((h x).1 List.mem_cons_self) List.not_mem_nil
  | x :: l, y :: m, h1, h2, h => by
    have p1 := List.pairwise_cons.1 h1
    have p2 := List.pairwise_cons.1 h2
    have e : x = y := by
      rcases List.mem_cons.1 ((h x).1 List.mem_cons_self) with e | hx
      · exact e
      · rcases List.mem_cons.1 ((h y).2 List.mem_cons_self) with e | hy
        · exact e.symm
        · have a := p2.1 x hx
          have b := p1.1 y hy
          omega
    subst e
    congr 1
    refine rise_only p1.2 p2.2 fun z => ⟨fun hz => ?_, fun hz => ?_⟩
    · rcases List.mem_cons.1 ((h z).1 (List.mem_cons_of_mem _ hz)) with e | hz'
      · have := p1.1 z hz
        rw [e] at this
        omega
      · exact hz'
    · rcases List.mem_cons.1 ((h z).2 (List.mem_cons_of_mem _ hz)) with e | hz'
      · have := p2.1 z hz
        rw [e] at this
        omega
      · exact hz'
theorem good_mem_ris {l : List Ar} (h : goodA l) (x : Ar) : x ∈ risA l ↔ x ∈ l := by
  rw [risA_mem]
  constructor
  · rintro ⟨_, hg⟩
    obtain ⟨y, hy, h1, h2⟩ := getA_mem hg
    cases x; cases y
    simp only at h1 h2
    subst h1 h2
    exact hy
  · intro hx
    have := h.1 x hx
    exact ⟨⟨this.1, this.2.1⟩, getA_own h.2 x hx⟩
theorem risA_rising {l : List Ar} (h : goodA l) (hr : l.Pairwise fun a b => a.k < b.k) : risA l = l := rise_only (risA_rise l) hr (good_mem_ris h)
/-- All that is asked? -/
def matA (l a : List Ar) : Bool := a.all fun x => decide (getA l x.k = some x.v)
theorem matA_iff (l a : List Ar) : matA l a = true ↔ ∀ x ∈ a, getA l x.k = some x.v := by
  unfold matA
  rw [List.all_eq_true]
  exact ⟨fun h x hx => of_decide_eq_true (h x hx), fun h x hx => decide_eq_true (h x hx)⟩
/-- One laid over another. -/
def ovrA (l t : List Ar) : List Ar := risA (t ++ l)
theorem ovrA_get (l t : List Ar) {k : Int} (h1 : 1 ≤ k) (h2 : k ≤ 18) : getA (ovrA l t) k = (getA t k).or (getA l k) := by
  unfold ovrA
  rw [risA_get, if_pos ⟨h1, h2⟩, getA_app]
theorem ovrA_good {l t : List Ar} (hl : ∀ x ∈ l, x.good) (ht : ∀ x ∈ t, x.good) : fltA (ovrA l t) = 0 :=
  risA_good fun x hx => by
    rcases List.mem_append.1 hx with hx | hx
    · exact ht x hx
    · exact hl x hx
theorem ovrA_top {l t : List Ar} (ht : goodA t) : matA (ovrA l t) t = true := (matA_iff _ _).2 fun x hx => by
  have hg := ht.1 x hx
  rw [ovrA_get l t hg.1 hg.2.1, getA_own ht.2 x hx]
  rfl
end Go.Proofs.Ytepaapiflkkghaa

/- A list's attributes by their kinds, as mathematics. -/
namespace Go.Proofs.Ytepaapiflkkghaa
set_option linter.unusedSimpArgs false
def putF (f : Nat → Option (List Nat)) (i : Nat) (v : List Nat) : Nat → Option (List Nat) := fun k => if k = i then some v else f k
/-- A list's card. -/
def crdF (l : List Ar) (i : Nat) : Option (List Nat) := if 1 ≤ i ∧ i ≤ 18 then getA l (i : Int) else none
theorem crdF_nil : crdF [] = fun _ => none := by
  funext i
  unfold crdF
  split <;> rfl
theorem crdF_skip {l : List Ar} {x : Ar} (h : ¬ (1 ≤ x.k ∧ x.k ≤ 18 ∧ crdF l x.k.toNat = none)) : crdF (l ++ [x]) = crdF l := by
  funext i
  unfold crdF at *
  by_cases hi : 1 ≤ i ∧ i ≤ 18
  · rw [if_pos hi, if_pos hi, getA_app]
    cases hg : getA l (i : Int) with
    | some v => rfl
    | none =>
      rw [Option.none_or, getA]
      by_cases e : x.k = (i : Int)
      · refine absurd ⟨by omega, by omega, ?_⟩ h
        rw [e, Int.toNat_natCast, if_pos hi]
        exact hg
      · rw [if_neg e]
        rfl
  · rw [if_neg hi, if_neg hi]
theorem crdF_put {l : List Ar} {x : Ar} {i : Nat} (hi : 1 ≤ i ∧ i ≤ 18) (hx : x.k = (i : Int)) (hn : crdF l i = none) : crdF (l ++ [x]) = putF (crdF l) i x.v := by
  funext j
  unfold putF
  by_cases e : j = i
  · rw [if_pos e, e]
    unfold crdF at *
    rw [if_pos hi] at hn ⊢
    rw [getA_app, hn, Option.none_or, getA, if_pos hx]
  · rw [if_neg e]
    unfold crdF
    by_cases hj : 1 ≤ j ∧ j ≤ 18
    · rw [if_pos hj, if_pos hj, getA_app]
      cases getA l (j : Int) with
      | some v => rfl
      | none =>
        rw [Option.none_or, getA, if_neg (by omega)]
        rfl
    · rw [if_neg hj, if_neg hj]
def ovF (f g : Nat → Option (List Nat)) : Nat → Option (List Nat) := fun i => (g i).or (f i)
theorem ovF_crd (l t : List Ar) : ovF (crdF l) (crdF t) = crdF (t ++ l) := by
  funext i
  unfold ovF crdF
  by_cases h : 1 ≤ i ∧ i ≤ 18
  · rw [if_pos h, if_pos h, if_pos h, getA_app]
  · rw [if_neg h, if_neg h, if_neg h]
    rfl
/-- The attributes of a card below a kind. -/
def atsF (f : Nat → Option (List Nat)) : Nat → List Ar
  | 0 => []
  | n + 1 => atsF f n ++ (match f n with | some v => [⟨(n : Int), v⟩] | none => [])
theorem atsF_len (f : Nat → Option (List Nat)) : ∀ n, (atsF f n).length ≤ n
  | 0 => Nat.le_refl _
  | n + 1 => by
    have ih := atsF_len f n
    rw [atsF, List.length_append]
    cases f n <;> simp <;> omega
theorem atsF_ris (l : List Ar) : ∀ n, n ≤ 18 → atsF (crdF l) (n + 1) = risN l n
  | 0, _ => by
    have : crdF l 0 = none := by unfold crdF; rw [if_neg (by omega)]
    simp [atsF, this, risN]
  | n + 1, h => by
    have e : crdF l (n + 1) = getA l ((n : Int) + 1) := by
      unfold crdF
      rw [if_pos ⟨by omega, h⟩]
      rfl
    rw [atsF, atsF_ris l n (by omega), e, risN]
    rfl
end Go.Proofs.Ytepaapiflkkghaa

/- What may be done with an object, as mathematics. -/
namespace Go.Proofs.Ytepaapiflkkghaa
set_option linter.unusedSimpArgs false
abbrev Crd := Nat → Option (List Nat)
/-- A kind (from 1 on) to a class? -/
def belB (c k : Nat) : Bool := if c = 1 then decide (k ≤ 7) else if c = 2 then decide (k ≤ 17) else if c = 3 then decide (k ≤ 7 ∨ k = 14) else if c = 4 then decide (k ≤ 13 ∨ k = 18) else false
/-- A value of its class's size? -/
def sizB (c n : Nat) : Bool := decide (c = 1 ∨ n = 32 ∨ (c = 2 ∧ (n = 16 ∨ n = 24)))
def oneF (f : Crd) (k : Nat) : Bool := decide ((f k).getD [] = [1])
def clsF (f : Crd) : Nat := if ((f 1).getD []).length = 1 then ((f 1).getD []).getD 0 0 else 0
def kdsF (f : Crd) : Bool := (List.range 18).all fun i => (f (i + 1)).isSome == belB (clsF f) (i + 1)
def keyF (f : Crd) : Bool := oneF f 16 || oneF f 17
def datF (f : Crd) : Bool := (oneF f 13 || oneF f 14) || oneF f 15
def objF (f : Crd) : Bool := (kdsF f && ((f 1).isSome && sizB (clsF f) ((f 4).getD []).length)) && (((!oneF f 10 || oneF f 8) && (!oneF f 11 || !oneF f 9)) && !(keyF f && datF f))
/-- Is the value hidden (any list)? -/
def hidA (l : List Ar) : Bool := decide ((getA l 8).getD [] = [1]) || ((getA l 9).isSome && !decide ((getA l 9).getD [] = [1]))
/-- Do the kinds rise? -/
def upA (l : List Ar) : Bool := decide ((l.map Ar.k).Pairwise (· < ·))
theorem upA_iff {l : List Ar} (h : goodA l) : upA l = true ↔ l = risA l := by
  unfold upA
  rw [decide_eq_true_iff, List.pairwise_map]
  exact ⟨fun hr => (risA_rising h hr).symm, fun e => by rw [e]; exact risA_rise l⟩
/-- Is a list an object? -/
def valA (l : List Ar) : Bool := decide (fltA l = 0) && (upA l && objF (crdF l))
def lowF (f : Crd) : Prop := ∀ i v, f i = some v → lowB v
theorem lowF.get {f : Crd} (h : lowF f) (i : Nat) : lowB ((f i).getD []) := by
  cases e : f i with
  | none => exact fun y hy => absurd hy List.not_mem_nil
  | some v => exact h i v e
theorem crdF_low {l : List Ar} (h : ∀ x ∈ l, lowB x.v) : lowF (crdF l) := fun i v e => by
  unfold crdF at e
  split at e
  · obtain ⟨x, hx, _, rfl⟩ := getA_mem e
    exact h x hx
  · cases e
theorem ovF_low {f g : Crd} (hf : lowF f) (hg : lowF g) : lowF (ovF f g) := fun i v e => by
  unfold ovF at e
  cases h : g i with
  | none =>
    rw [h, Option.none_or] at e
    exact hf i v e
  | some x =>
    rw [h, Option.some_or] at e
    exact hg i v (h.trans e)
theorem clsF_low {f : Crd} (h : lowF f) : clsF f < 256 := by
  unfold clsF
  split
  · rename_i e
    have := h.get 1
    generalize (f 1).getD [] = xs at *
    match xs, e with
    | [x], _ => exact this x List.mem_cons_self
  · decide
/-- A template's error for a new object of a class: that of its first element that has one. -/
def badM (c : Nat) : List Ar → Nat
  | [] => 0
  | x :: l => if belB c x.k.toNat = false then 13 else if 10 ≤ x.k ∧ x.k ≤ 12 then 12 else badM c l
def flgV (b : Bool) : List Nat := if b then [1] else [0]
/-- What is there of a class unasked. -/
def dftF (c j : Nat) : Crd := fun k => if 1 ≤ k ∧ k < j ∧ belB c k = true then some (if 4 < k then flgV (k == 7 || k == 9 || (k == 6 && c % 2 == 0)) else []) else none
def locF (c : Nat) (b : Bool) (f : Crd) : Crd := if c % 2 = 0 then putF (putF (putF f 12 (flgV b)) 10 (flgV (b && oneF f 8))) 11 (flgV (b && !oneF f 9)) else f
def nonF : Crd := fun _ => none
/-- An object made of a template. -/
def mdeF (t : List Ar) (b : Bool) : Crd := locF (clsF (crdF t)) b (ovF (dftF (clsF (crdF t)) 19) (crdF t))
def madE (t : List Ar) (b : Bool) : Nat :=
  if fltA t ≠ 0 then fltA t else if clsF (crdF t) = 0 then 1 else if badM (clsF (crdF t)) t ≠ 0 then badM (clsF (crdF t)) t
  else if crdF t 4 = none then 3 else if sizB (clsF (crdF t)) ((crdF t 4).getD []).length = false then 4 else if objF (mdeF t b) = true then 0 else 12
def madF (t : List Ar) (b : Bool) : Crd := if madE t b = 0 then mdeF t b else nonF
/-- What may not be done to an object's element. -/
def nayB (c : Crd) (cp : Bool) (x : Ar) : Bool :=
  decide (x.k = 1 ∨ x.k = 4 ∨ x.k = 10 ∨ x.k = 11 ∨ x.k = 12) || (decide (x.k = 5) && !cp) || (decide (x.k = 6) && (!cp || (decide (x.v = [0]) && oneF c 6))) || (decide (x.k = 8) && (decide (x.v = [0]) && oneF c 8)) || (decide (x.k = 9) && (decide (x.v = [1]) && !oneF c 9))
def badT (c : Crd) (cp : Bool) : List Ar → Nat
  | [] => 0
  | x :: l => if (c x.k.toNat).isSome = false then 13 else if nayB c cp x = true then 12 else badT c cp l
def trnE (l t : List Ar) (cp : Bool) : Nat :=
  if valA l = false then 1 else if fltA t ≠ 0 then fltA t else if oneF (crdF l) 7 = false ∧ cp = false then 12 else if badT (crdF l) cp t ≠ 0 then badT (crdF l) cp t
  else if objF (crdF (t ++ l)) = true then 0 else 12
def trnF (l t : List Ar) (cp : Bool) : Crd := if trnE l t cp = 0 then crdF (t ++ l) else nonF
/-- See, May. -/
def seeE (l : List Ar) (k : Int) : Nat := if getA l k = none then 13 else if k = 4 ∧ hidA l = true then 12 else 0
def mayE (l : List Ar) (k : Int) : Nat := if getA l k = none then 13 else if k < 13 ∨ 18 < k then 13 else if (getA l k).getD [] = [1] then 0 else 12
theorem badM_none {c : Nat} {x : Ar} {r : List Ar} (h : belB c x.k.toNat = false) : badM c (x :: r) = 13 := by rw [badM, if_pos h]
theorem badM_nay {c : Nat} {x : Ar} {r : List Ar} (h : belB c x.k.toNat = true) (hn : 10 ≤ x.k ∧ x.k ≤ 12) : badM c (x :: r) = 12 := by rw [badM, if_neg (by rw [h]; decide), if_pos hn]
theorem badM_next {c : Nat} {x : Ar} {r : List Ar} (h : belB c x.k.toNat = true) (hn : ¬ (10 ≤ x.k ∧ x.k ≤ 12)) : badM c (x :: r) = badM c r := by rw [badM, if_neg (by rw [h]; decide), if_neg hn]
theorem putF_twice (f : Crd) (i : Nat) (u v : List Nat) : putF (putF f i u) i v = putF f i v := by
  funext k
  unfold putF
  by_cases h : k = i
  · rw [if_pos h, if_pos h]
  · rw [if_neg h, if_neg h, if_neg h]
def dftV (c k : Nat) : List Nat := if 4 < k then flgV (k == 7 || k == 9 || (k == 6 && c % 2 == 0)) else []
theorem dftF_one (c : Nat) : dftF c 1 = fun _ => none := by
  funext k
  unfold dftF
  rw [if_neg (by omega)]
theorem dftF_skip {c k : Nat} (h : belB c k = false) : dftF c (k + 1) = dftF c k := by
  funext i
  unfold dftF
  by_cases e : i = k
  · rw [e, if_neg (fun h' => by rw [h] at h'; cases h'.2.2), if_neg (by omega)]
  · by_cases hi : 1 ≤ i ∧ i < k ∧ belB c i = true
    · rw [if_pos hi, if_pos ⟨hi.1, by omega, hi.2.2⟩]
    · rw [if_neg hi, if_neg (fun h' => hi ⟨h'.1, by omega, h'.2.2⟩)]
theorem dftF_put {c k : Nat} (hk : 1 ≤ k) (h : belB c k = true) : dftF c (k + 1) = putF (dftF c k) k (dftV c k) := by
  funext i
  show dftF c (k + 1) i = if i = k then some (dftV c k) else dftF c k i
  by_cases e : i = k
  · rw [if_pos e, e]
    unfold dftF dftV
    rw [if_pos ⟨hk, by omega, h⟩]
  · rw [if_neg e]
    unfold dftF
    by_cases hi : 1 ≤ i ∧ i < k ∧ belB c i = true
    · rw [if_pos hi, if_pos ⟨hi.1, by omega, hi.2.2⟩]
    · rw [if_neg hi, if_neg (fun h' => hi ⟨h'.1, by omega, h'.2.2⟩)]
theorem dftF_none (c k : Nat) : dftF c k k = none := by
  unfold dftF
  rw [if_neg (by omega)]
theorem flgV_low (b : Bool) : lowB (flgV b) := fun y hy => by
  cases b with
  | true => obtain rfl := List.mem_singleton.1 hy; decide
  | false => obtain rfl := List.mem_singleton.1 hy; decide
theorem dftF_low (c k : Nat) : lowF (dftF c k) := fun i v h => by
  unfold dftF at h
  split at h
  · obtain rfl := Option.some.inj h
    split
    · exact flgV_low _
    · exact fun y hy => absurd hy List.not_mem_nil
  · cases h
theorem putF_low {f : Crd} {i : Nat} {v : List Nat} (h : lowF f) (hv : lowB v) : lowF (putF f i v) := fun k x e => by
  unfold putF at e
  split at e
  · obtain rfl := Option.some.inj e
    exact hv
  · exact h k x e
theorem oneF_put {f : Crd} {i k : Nat} {v : List Nat} (h : k ≠ i) : oneF (putF f i v) k = oneF f k := by
  unfold oneF putF
  rw [if_neg h]
theorem cls_four {t : List Ar} (h : ∀ x ∈ t, x.good) : clsF (crdF t) ≤ 4 := by
  unfold clsF
  split
  · rename_i hl
    cases e : crdF t 1 with
    | none => rw [e] at hl; cases hl
    | some v =>
      rw [e] at hl
      have e1 : getA t 1 = some v := by
        unfold crdF at e
        rw [if_pos (by decide)] at e
        exact e
      obtain ⟨x, hx, hk, rfl⟩ := getA_mem e1
      have hf := (h x hx).2.2
      unfold fitA at hf
      have hl' : x.v.length = 1 := hl
      rw [hk, if_neg (by decide), if_neg (by decide), if_pos hl', if_pos rfl] at hf
      show x.v.getD 0 0 ≤ 4
      exact (of_decide_eq_true hf).2
  · exact Nat.zero_le _
theorem even_has {c k : Nat} {f : Crd} (h4 : c ≤ 4) (h0 : c ≠ 0) (h2 : c % 2 = 0) (hk : 10 ≤ k ∧ k ≤ 12) : (ovF (dftF c 19) f k).isSome = true := by
  have hb : belB c k = true := by
    unfold belB
    have : c = 2 ∨ c = 4 := by omega
    rcases this with rfl | rfl
    · rw [if_neg (by decide), if_pos rfl]
      exact decide_eq_true (by omega)
    · rw [if_neg (by decide), if_neg (by decide), if_neg (by decide), if_pos rfl]
      exact decide_eq_true (by omega)
  unfold ovF
  cases f k with
  | some v => rfl
  | none =>
    rw [Option.none_or]
    unfold dftF
    rw [if_pos ⟨by omega, by omega, hb⟩]
    rfl
theorem locF_low {c : Nat} {b : Bool} {f : Crd} (h : lowF f) : lowF (locF c b f) := by
  unfold locF
  split
  · exact putF_low (putF_low (putF_low h (flgV_low _)) (flgV_low _)) (flgV_low _)
  · exact h
theorem madF_low {t : List Ar} {b : Bool} (h : ∀ x ∈ t, lowB x.v) : lowF (madF t b) := by
  unfold madF
  split
  · exact locF_low (ovF_low (dftF_low _ _) (crdF_low h))
  · exact fun i v e => by cases e
theorem atsF_low {f : Crd} (h : lowF f) : ∀ n, ∀ x ∈ atsF f n, lowB x.v
  | 0, x, hx => absurd hx List.not_mem_nil
  | n + 1, x, hx => by
    rw [atsF] at hx
    rcases List.mem_append.1 hx with hx | hx
    · exact atsF_low h n x hx
    · cases e : f n with
      | none => rw [e] at hx; exact absurd hx List.not_mem_nil
      | some v =>
        rw [e] at hx
        obtain rfl := List.mem_singleton.1 hx
        exact h n v e
end Go.Proofs.Ytepaapiflkkghaa
