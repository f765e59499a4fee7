/- Attributes as mathematics: what is wrong with a list, the first of a kind, the rising list. -/
import Derived.Test.YtepaapiflkkghabQArrToAtD
namespace Go.Proofs.Ytepaapiflkkghab
set_option linter.unusedSimpArgs false
/-- The value of the first of a kind. -/
def getA : List Ar → Int → Option (List Nat)
  | [], _ => none
  | x :: l, k => if x.k = k then some x.v else getA l k
theorem getA_app : ∀ (l m : List Ar) (k : Int), getA (l ++ m) k = (getA l k).or (getA m k)
  | [], m, k => by simp [getA]
  | x :: l, m, k => by
    rw [List.cons_append, getA, getA]
    split
    · rfl
    · exact getA_app l m k
theorem getA_mem : ∀ {l : List Ar} {k : Int} {v : List Nat}, getA l k = some v → ∃ x ∈ l, x.k = k ∧ x.v = v
  | x :: l, k, v, h => by
    rw [getA] at h
    split at h
    · exact ⟨x, List.mem_cons_self, ‹_›, Option.some.inj h⟩
    · obtain ⟨y, hy, h⟩ := getA_mem h
      exact ⟨y, List.mem_cons_of_mem _ hy, h⟩
theorem getA_none : ∀ {l : List Ar} {k : Int}, getA l k = none → ∀ x ∈ l, x.k ≠ k
  | y :: l, k, h, x, hx => by
    rw [getA] at h
    split at h
    · cases h
    · rcases List.mem_cons.1 hx with rfl | hx
      · assumption
      · exact getA_none h x hx
theorem getA_own : ∀ {l : List Ar}, (l.map Ar.k).Nodup → ∀ x ∈ l, getA l x.k = some x.v
  | y :: l, hd, x, hx => by
    rw [List.map_cons, List.nodup_cons] at hd
    rw [getA]
    rcases List.mem_cons.1 hx with rfl | hx
    · rw [if_pos rfl]
    · rw [if_neg fun e => hd.1 (List.mem_map.2 ⟨x, hx, e.symm⟩)]
      exact getA_own hd.2 x hx
/-- Is the value one of its kind's? -/
def fitA (k : Int) (v : List Nat) : Bool :=
  if k = 2 ∨ k = 3 then decide (v.length ≤ 32) else if k = 4 then decide (v.length ≤ 64)
  else if v.length = 1 then (if k = 1 then decide (1 ≤ v.getD 0 0 ∧ v.getD 0 0 ≤ 4) else decide (v.getD 0 0 ≤ 1)) else false
/-- What is wrong with an element, those ahead of it given. -/
def badA (p : List Ar) (x : Ar) : Nat := if x.k < 1 ∨ 18 < x.k then 13 else if fitA x.k x.v = false then 4 else if (p.any fun y => y.k == x.k) = true then 1 else 0
def fltL : List Ar → List Ar → Nat
  | _, [] => 0
  | p, x :: r => if badA p x ≠ 0 then badA p x else fltL (p ++ [x]) r
def fltA (l : List Ar) : Nat := if 24 < l.length then 2 else fltL [] l
/-- An element as the document takes it. -/
def Ar.good (x : Ar) : Prop := 1 ≤ x.k ∧ x.k ≤ 18 ∧ fitA x.k x.v = true
def goodA (l : List Ar) : Prop := (∀ x ∈ l, x.good) ∧ (l.map Ar.k).Nodup
theorem badA_zero (p : List Ar) (x : Ar) : badA p x = 0 ↔ x.good ∧ ∀ y ∈ p, y.k ≠ x.k := by
  unfold badA Ar.good
  by_cases h1 : x.k < 1 ∨ 18 < x.k
  · rw [if_pos h1]
    exact ⟨fun h => absurd h (by decide), fun h => by omega⟩
  · rw [if_neg h1]
    by_cases h2 : fitA x.k x.v = false
    · rw [if_pos h2]
      exact ⟨fun h => absurd h (by decide), fun h => by rw [h2] at h; cases h.1.2.2⟩
    · rw [if_neg h2]
      have h2' : fitA x.k x.v = true := by simpa using h2
      by_cases h3 : (p.any fun y => y.k == x.k) = true
      · rw [if_pos h3]
        refine ⟨fun h => absurd h (by decide), fun h => ?_⟩
        obtain ⟨y, hy, e⟩ := List.any_eq_true.1 h3
        exact absurd (beq_iff_eq.1 e) (h.2 y hy)
      · rw [if_neg h3]
        refine ⟨fun _ => ⟨⟨by omega, by omega, h2'⟩, fun y hy e => h3 (List.any_eq_true.2 ⟨y, hy, beq_iff_eq.2 e⟩)⟩, fun _ => rfl⟩
theorem fltL_zero : ∀ (r p : List Ar), fltL p r = 0 ↔ (∀ x ∈ r, x.good) ∧ (r.map Ar.k).Nodup ∧ ∀ x ∈ r, ∀ y ∈ p, y.k ≠ x.k
  | [], p => by simp [fltL]
  | x :: r, p => by
    have ih := fltL_zero r (p ++ [x])
    have hb := badA_zero p x
    rw [fltL, List.map_cons, List.nodup_cons]
    by_cases h : badA p x = 0
    · rw [if_neg (by simpa using h), ih]
      have hx := hb.1 h
      constructor
      · rintro ⟨h1, h2, h3⟩
        refine ⟨fun y hy => ?_, ⟨fun hm => ?_, h2⟩, fun y hy z hz => ?_⟩
        · rcases List.mem_cons.1 hy with rfl | hy
          · exact hx.1
          · exact h1 y hy
        · obtain ⟨y, hy, e⟩ := List.mem_map.1 hm
          exact h3 y hy x (List.mem_append_right _ List.mem_cons_self) e.symm
        · rcases List.mem_cons.1 hy with rfl | hy
          · exact hx.2 z hz
          · exact h3 y hy z (List.mem_append_left _ hz)
      · rintro ⟨h1, ⟨h2, h3⟩, h4⟩
        refine ⟨fun y hy => h1 y (List.mem_cons_of_mem _ hy), h3, fun y hy z hz => ?_⟩
        rcases List.mem_append.1 hz with hz | hz
        · exact h4 y (List.mem_cons_of_mem _ hy) z hz
        · obtain rfl := List.mem_singleton.1 hz
          exact fun e => h2 (List.mem_map.2 ⟨y, hy, e.symm⟩)
    · rw [if_pos h]
      refine ⟨fun e => absurd e h, fun ⟨h1, _, h4⟩ => absurd (hb.2 ⟨h1 x List.mem_cons_self, fun y hy => h4 x List.mem_cons_self y hy⟩) h⟩
theorem fltA_zero (l : List Ar) : fltA l = 0 ↔ l.length ≤ 24 ∧ goodA l := by
  unfold fltA goodA
  split
  · exact ⟨fun h => absurd h (by decide), fun h => by omega⟩
  · rw [fltL_zero l []]
    exact ⟨fun h => ⟨by omega, h.1, h.2.1⟩, fun h => ⟨h.2.1, h.2.2, fun _ _ _ hy => absurd hy List.not_mem_nil⟩⟩
/-- By rising kinds. -/
def risN (l : List Ar) : Nat → List Ar
  | 0 => []
  | n + 1 => risN l n ++ (match getA l ((n : Int) + 1) with | some v => [⟨(n : Int) + 1, v⟩] | none => [])
def risA (l : List Ar) : List Ar := risN l 18
theorem risN_mem {l : List Ar} : ∀ {n : Nat} {x : Ar}, x ∈ risN l n ↔ (1 ≤ x.k ∧ x.k ≤ n) ∧ getA l x.k = some x.v
  | 0, x => by
    rw [risN]
    exact ⟨fun h => absurd h List.not_mem_nil, fun h => by omega⟩
  | n + 1, x => by
    rw [risN, List.mem_append, risN_mem]
    constructor
    · rintro (h | h)
      · exact ⟨by omega, h.2⟩
      · cases hg : getA l ((n : Int) + 1) with
        | none => rw [hg] at h; exact absurd h List.not_mem_nil
        | some v =>
          rw [hg] at h
          obtain rfl := List.mem_singleton.1 h
          exact ⟨by simp only; omega, hg⟩
    · rintro ⟨h1, h2⟩
      by_cases e : x.k = (n : Int) + 1
      · right
        rw [← e, h2]
        exact List.mem_singleton.2 (by cases x; rfl)
      · left
        exact ⟨by omega, h2⟩
theorem risA_mem {l : List Ar} {x : Ar} : x ∈ risA l ↔ (1 ≤ x.k ∧ x.k ≤ 18) ∧ getA l x.k = some x.v := risN_mem
theorem risN_rise (l : List Ar) : ∀ n, (risN l n).Pairwise fun a b => a.k < b.k
  | 0 => List.Pairwise.nil
  | n + 1 => by
    rw [risN, List.pairwise_append]
    refine ⟨risN_rise l n, ?_, fun a ha b hb => ?_⟩
    · cases getA l ((n : Int) + 1) with
      | none => exact List.Pairwise.nil
      | some v => exact List.pairwise_singleton _ _
    · have h1 := (risN_mem.1 ha).1
      cases hg : getA l ((n : Int) + 1) with
      | none => rw [hg] at hb; exact absurd hb List.not_mem_nil
      | some v =>
        rw [hg] at hb
        obtain rfl := List.mem_singleton.1 hb
        simp only
        omega
theorem risA_rise (l : List Ar) : (risA l).Pairwise fun a b => a.k < b.k := risN_rise l 18
theorem risA_nodup (l : List Ar) : ((risA l).map Ar.k).Nodup := by
  unfold List.Nodup
  rw [List.pairwise_map]
  exact (risA_rise l).imp fun h => Int.ne_of_lt h
theorem risN_len (l : List Ar) : ∀ n, (risN l n).length ≤ n
  | 0 => Nat.le_refl _
  | n + 1 => by
    have ih := risN_len l n
    rw [risN, List.length_append]
    cases getA l ((n : Int) + 1) <;> simp <;> omega
theorem risA_len (l : List Ar) : (risA l).length ≤ 18 := risN_len l 18
theorem risN_get (l : List Ar) (k : Int) : ∀ n : Nat, getA (risN l n) k = if 1 ≤ k ∧ k ≤ (n : Int) then getA l k else none
  | 0 => by
    rw [risN, getA, if_neg (by omega)]
  | n + 1 => by
    rw [risN, getA_app, risN_get l k n]
    by_cases h : 1 ≤ k ∧ k ≤ (n : Int)
    · rw [if_pos h, if_pos (by omega)]
      cases hg : getA l ((n : Int) + 1) with
      | none => simp [getA]
      | some v =>
        rw [getA, if_neg (by simp only; omega)]
        simp [getA]
    · rw [if_neg h, Option.none_or]
      by_cases e : k = (n : Int) + 1
      · subst e
        rw [if_pos (by omega)]
        cases hg : getA l ((n : Int) + 1) with
        | none => rfl
        | some v => rw [getA, if_pos rfl]
      · rw [if_neg (by omega)]
        cases hg : getA l ((n : Int) + 1) with
        | none => rfl
        | some v => rw [getA, if_neg (by simp only; omega)]; rfl
theorem risA_get (l : List Ar) (k : Int) : getA (risA l) k = if 1 ≤ k ∧ k ≤ 18 then getA l k else none := risN_get l k 18
theorem risN_congr {l m : List Ar} : ∀ {n : Nat}, (∀ k : Int, 1 ≤ k → k ≤ n → getA l k = getA m k) → risN l n = risN m n
  | 0, _ => rfl
  | n + 1, h => by
    rw [risN, risN, risN_congr fun k h1 h2 => h k h1 (by omega), h ((n : Int) + 1) (by omega) (by omega)]
theorem risA_congr {l m : List Ar} (h : ∀ k : Int, 1 ≤ k → k ≤ 18 → getA l k = getA m k) : risA l = risA m := risN_congr h
theorem risA_ris (l : List Ar) : risA (risA l) = risA l := risA_congr fun k h1 h2 => by rw [risA_get, if_pos ⟨h1, h2⟩]
theorem good_of_get {l : List Ar} (h : ∀ x ∈ l, x.good) {k : Int} {v : List Nat} (hg : getA l k = some v) : 1 ≤ k ∧ k ≤ 18 ∧ fitA k v = true := by
  obtain ⟨x, hx, rfl, rfl⟩ := getA_mem hg
  exact h x hx
/-- The rising list of what the document takes is one that it takes. -/
theorem risA_good {l : List Ar} (h : ∀ x ∈ l, x.good) : fltA (risA l) = 0 := by
  have hl := risA_len l
  refine (fltA_zero _).2 ⟨by omega, fun x hx => ?_, risA_nodup l⟩
  have hm := risA_mem.1 hx
  exact good_of_get h hm.2
/-- A list that rises already. -/
theorem rise_only : ∀ {l m : List Ar}, (l.Pairwise fun a b => a.k < b.k) → (m.Pairwise fun a b => a.k < b.k) → (∀ x, x ∈ l ↔ x ∈ m) → l = m
  | [], [], _, _, _ => rfl
  | [], y :: m, _, _, h => absurd ((h y).2 List.mem_cons_self) List.not_mem_nil
  | x :: l, [], _, _, h => absurd ((h x).1 List.mem_cons_self) List.not_mem_nil
  | x :: l, y :: m, h1, h2, h => by
    have p1 := List.pairwise_cons.1 h1
    have p2 := List.pairwise_cons.1 h2
    have e : x = y := by
      rcases List.mem_cons.1 ((h x).1 List.mem_cons_self) with e | hx
      · exact e
      · rcases List.mem_cons.1 ((h y).2 List.mem_cons_self) with e | hy
        · exact e.symm
        · have a := p2.1 x hx
          have b := p1.1 y hy
          omega
    subst e
    congr 1
    refine rise_only p1.2 p2.2 fun z => ⟨fun hz => ?_, fun hz => ?_⟩
    · rcases List.mem_cons.1 ((h z).1 (List.mem_cons_of_mem _ hz)) with e | hz'
      · have := p1.1 z hz
        rw [e] at this
        omega
      · exact hz'
    · rcases List.mem_cons.1 ((h z).2 (List.mem_cons_of_mem _ hz)) with e | hz'
      · have := p2.1 z hz
        rw [e] at this
        omega
      · exact hz'
theorem good_mem_ris {l : List Ar} (h : goodA l) (x : Ar) : x ∈ risA l ↔ x ∈ l := by
  rw [risA_mem]
  constructor
  · rintro ⟨_, hg⟩
    obtain ⟨y, hy, h1, h2⟩ := getA_mem hg
    cases x; cases y
    simp only at h1 h2
    subst h1 h2
    exact hy
  · intro hx
    have := h.1 x hx
    exact ⟨⟨this.1, this.2.1⟩, getA_own h.2 x hx⟩
theorem risA_rising {l : List Ar} (h : goodA l) (hr : l.Pairwise fun a b => a.k < b.k) : risA l = l := rise_only (risA_rise l) hr (good_mem_ris h)
/-- One laid over another. -/
def ovrA (l t : List Ar) : List Ar := risA (t ++ l)
theorem ovrA_good {l t : List Ar} (hl : ∀ x ∈ l, x.good) (ht : ∀ x ∈ t, x.good) : fltA (ovrA l t) = 0 :=
  risA_good fun x hx => by
    rcases List.mem_append.1 hx with hx | hx
    · exact ht x hx
    · exact hl x hx
end Go.Proofs.Ytepaapiflkkghab
