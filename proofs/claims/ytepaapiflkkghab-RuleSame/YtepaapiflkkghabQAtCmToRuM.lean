/- Texts that were joined: AtCm, RuM. -/
import Derived.Test.YtepaapiflkkghabQAtM
/- A list's attributes by their kinds, as mathematics. -/
namespace Go.Proofs.Ytepaapiflkkghab
set_option linter.unusedSimpArgs false
def putF (f : Nat → Option (List Nat)) (i : Nat) (v : List Nat) : Nat → Option (List Nat) := fun k => if k = i then some v else f k
/-- A list's card. -/
def crdF (l : List Ar) (i : Nat) : Option (List Nat) := if 1 ≤ i ∧ i ≤ 18 then getA l (i : Int) else none
def ovF (f g : Nat → Option (List Nat)) : Nat → Option (List Nat) := fun i => (g i).or (f i)
/-- The attributes of a card below a kind. -/
def atsF (f : Nat → Option (List Nat)) : Nat → List Ar
  | 0 => []
  | n + 1 => atsF f n ++ (match f n with | some v => [⟨(n : Int), v⟩] | none => [])
theorem atsF_len (f : Nat → Option (List Nat)) : ∀ n, (atsF f n).length ≤ n
  | 0 => Nat.le_refl _
  | n + 1 => by
    have ih := atsF_len f n
    rw [atsF, List.length_append]
    cases f n <;> simp <;> omega
end Go.Proofs.Ytepaapiflkkghab

/- What may be done with an object, as mathematics. -/
namespace Go.Proofs.Ytepaapiflkkghab
set_option linter.unusedSimpArgs false
abbrev Crd := Nat → Option (List Nat)
/-- A kind (from 1 on) to a class? -/
def belB (c k : Nat) : Bool := if c = 1 then decide (k ≤ 7) else if c = 2 then decide (k ≤ 17) else if c = 3 then decide (k ≤ 7 ∨ k = 14) else if c = 4 then decide (k ≤ 13 ∨ k = 18) else false
/-- A value of its class's size? -/
def sizB (c n : Nat) : Bool := decide (c = 1 ∨ n = 32 ∨ (c = 2 ∧ (n = 16 ∨ n = 24)))
def oneF (f : Crd) (k : Nat) : Bool := decide ((f k).getD [] = [1])
def clsF (f : Crd) : Nat := if ((f 1).getD []).length = 1 then ((f 1).getD []).getD 0 0 else 0
def kdsF (f : Crd) : Bool := (List.range 18).all fun i => (f (i + 1)).isSome == belB (clsF f) (i + 1)
def keyF (f : Crd) : Bool := oneF f 16 || oneF f 17
def datF (f : Crd) : Bool := (oneF f 13 || oneF f 14) || oneF f 15
def objF (f : Crd) : Bool := (kdsF f && ((f 1).isSome && sizB (clsF f) ((f 4).getD []).length)) && (((!oneF f 10 || oneF f 8) && (!oneF f 11 || !oneF f 9)) && !(keyF f && datF f))
/-- Do the kinds rise? -/
def upA (l : List Ar) : Bool := decide ((l.map Ar.k).Pairwise (· < ·))
theorem upA_iff {l : List Ar} (h : goodA l) : upA l = true ↔ l = risA l := by
  unfold upA
  rw [decide_eq_true_iff, List.pairwise_map]
  exact ⟨fun hr => (risA_rising h hr).symm, fun e => by rw [e]; exact risA_rise l⟩
/-- Is a list an object? -/
def valA (l : List Ar) : Bool := decide (fltA l = 0) && (upA l && objF (crdF l))
def lowF (f : Crd) : Prop := ∀ i v, f i = some v → lowB v
theorem lowF.get {f : Crd} (h : lowF f) (i : Nat) : lowB ((f i).getD []) := by
  cases e : f i with
  | none => exact fun y hy => absurd hy List.not_mem_nil
  | some v => exact h i v e
theorem crdF_low {l : List Ar} (h : ∀ x ∈ l, lowB x.v) : lowF (crdF l) := fun i v e => by
  unfold crdF at e
  split at e
  · obtain ⟨x, hx, _, rfl⟩ := getA_mem e
    exact h x hx
  · cases e
theorem ovF_low {f g : Crd} (hf : lowF f) (hg : lowF g) : lowF (ovF f g) := fun i v e => by
  unfold ovF at e
  cases h : g i with
  | none =>
    rw [h, Option.none_or] at e
    exact hf i v e
  | some x =>
    rw [h, Option.some_or] at e
    exact hg i v (h.trans e)
/-- A template's error for a new object of a class: that of its first element that has one. -/
def badM (c : Nat) : List Ar → Nat
  | [] => 0
  | x :: l => if belB c x.k.toNat = false then 13 else if 10 ≤ x.k ∧ x.k ≤ 12 then 12 else badM c l
def flgV (b : Bool) : List Nat := if b then [1] else [0]
/-- What is there of a class unasked. -/
def dftF (c j : Nat) : Crd := fun k => if 1 ≤ k ∧ k < j ∧ belB c k = true then some (if 4 < k then flgV (k == 7 || k == 9 || (k == 6 && c % 2 == 0)) else []) else none
def locF (c : Nat) (b : Bool) (f : Crd) : Crd := if c % 2 = 0 then putF (putF (putF f 12 (flgV b)) 10 (flgV (b && oneF f 8))) 11 (flgV (b && !oneF f 9)) else f
def nonF : Crd := fun _ => none
/-- An object made of a template. -/
def mdeF (t : List Ar) (b : Bool) : Crd := locF (clsF (crdF t)) b (ovF (dftF (clsF (crdF t)) 19) (crdF t))
def madE (t : List Ar) (b : Bool) : Nat :=
  if fltA t ≠ 0 then fltA t else if clsF (crdF t) = 0 then 1 else if badM (clsF (crdF t)) t ≠ 0 then badM (clsF (crdF t)) t
  else if crdF t 4 = none then 3 else if sizB (clsF (crdF t)) ((crdF t 4).getD []).length = false then 4 else if objF (mdeF t b) = true then 0 else 12
def madF (t : List Ar) (b : Bool) : Crd := if madE t b = 0 then mdeF t b else nonF
/-- What may not be done to an object's element. -/
def nayB (c : Crd) (cp : Bool) (x : Ar) : Bool :=
  decide (x.k = 1 ∨ x.k = 4 ∨ x.k = 10 ∨ x.k = 11 ∨ x.k = 12) || (decide (x.k = 5) && !cp) || (decide (x.k = 6) && (!cp || (decide (x.v = [0]) && oneF c 6))) || (decide (x.k = 8) && (decide (x.v = [0]) && oneF c 8)) || (decide (x.k = 9) && (decide (x.v = [1]) && !oneF c 9))
def badT (c : Crd) (cp : Bool) : List Ar → Nat
  | [] => 0
  | x :: l => if (c x.k.toNat).isSome = false then 13 else if nayB c cp x = true then 12 else badT c cp l
def trnE (l t : List Ar) (cp : Bool) : Nat :=
  if valA l = false then 1 else if fltA t ≠ 0 then fltA t else if oneF (crdF l) 7 = false ∧ cp = false then 12 else if badT (crdF l) cp t ≠ 0 then badT (crdF l) cp t
  else if objF (crdF (t ++ l)) = true then 0 else 12
def mayE (l : List Ar) (k : Int) : Nat := if getA l k = none then 13 else if k < 13 ∨ 18 < k then 13 else if (getA l k).getD [] = [1] then 0 else 12
def dftV (c k : Nat) : List Nat := if 4 < k then flgV (k == 7 || k == 9 || (k == 6 && c % 2 == 0)) else []
theorem flgV_low (b : Bool) : lowB (flgV b) := fun y hy => by
  cases b with
  | true => obtain rfl := List.mem_singleton.1 hy; decide
  | false => obtain rfl := List.mem_singleton.1 hy; decide
theorem dftF_low (c k : Nat) : lowF (dftF c k) := fun i v h => by
  unfold dftF at h
  split at h
  · obtain rfl := Option.some.inj h
    split
    · exact flgV_low _
    · exact fun y hy => absurd hy List.not_mem_nil
  · cases h
theorem putF_low {f : Crd} {i : Nat} {v : List Nat} (h : lowF f) (hv : lowB v) : lowF (putF f i v) := fun k x e => by
  unfold putF at e
  split at e
  · obtain rfl := Option.some.inj e
    exact hv
  · exact h k x e
theorem locF_low {c : Nat} {b : Bool} {f : Crd} (h : lowF f) : lowF (locF c b f) := by
  unfold locF
  split
  · exact putF_low (putF_low (putF_low h (flgV_low _)) (flgV_low _)) (flgV_low _)
  · exact h
theorem madF_low {t : List Ar} {b : Bool} (h : ∀ x ∈ t, lowB x.v) : lowF (madF t b) := by
  unfold madF
  split
  · exact locF_low (ovF_low (dftF_low _ _) (crdF_low h))
  · exact fun i v e => by cases e
theorem atsF_low {f : Crd} (h : lowF f) : ∀ n, ∀ x ∈ atsF f n, lowB x.v
  | 0, x, hx => absurd hx List.not_mem_nil
  | n + 1, x, hx => by
    rw [atsF] at hx
    rcases List.mem_append.1 hx with hx | hx
    · exact atsF_low h n x hx
    · cases e : f n with
      | none => rw [e] at hx; exact absurd hx List.not_mem_nil
      | some v =>
        rw [e] at hx
        obtain rfl := List.mem_singleton.1 hx
        exact h n v e
end Go.Proofs.Ytepaapiflkkghab
