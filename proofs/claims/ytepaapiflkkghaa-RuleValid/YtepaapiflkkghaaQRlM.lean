/- What package rule answers, as it landed, as mathematics. -/
import Derived.Test.YtepaapiflkkghaaQRuGToRuI
namespace Go.Proofs.Ytepaapiflkkghaa
set_option linter.unusedSimpArgs false
/-- Is a kind 1 in a list? -/
def isA (l : List Ar) (k : Int) : Bool := decide ((getA l k).getD [] = [1])
/-- Which kinds are asked for: is one of them 1? -/
def anyA (l : List Ar) (ks : List Nat) : Bool := ks.any fun k => isA l (k : Int)
/-- Is a kind among these? -/
def amoA (ks : List Nat) (k : Int) : Bool := ks.any fun x => k == (x : Int)
theorem amoA_iff (ks : List Nat) (k : Int) : amoA ks k = true ↔ ∃ x ∈ ks, k = (x : Int) := by
  unfold amoA
  rw [List.any_eq_true]
  exact ⟨fun ⟨x, hx, e⟩ => ⟨x, hx, beq_iff_eq.1 e⟩, fun ⟨x, hx, e⟩ => ⟨x, hx, beq_iff_eq.2 e⟩⟩
theorem oneF_is {l : List Ar} {k : Nat} (h : 1 ≤ k ∧ k ≤ 18) : oneF (crdF l) k = isA l (k : Int) := by
  unfold oneF isA crdF
  rw [if_pos h]
theorem belB_no {c : Nat} (h : c = 0 ∨ 4 < c) (k : Nat) : belB c k = false := by
  unfold belB
  rw [if_neg (by omega), if_neg (by omega), if_neg (by omega), if_neg (by omega)]
theorem kndN_no {c : Nat} (h : c = 0 ∨ 4 < c) : ∀ n, kndN c n = []
  | 0 => rfl
  | n + 1 => by rw [kndN, kndN_no h n, belB_no h]; rfl
theorem kndN_mem {c x : Nat} : ∀ {n : Nat}, x ∈ kndN c n ↔ 1 ≤ x ∧ x ≤ n ∧ belB c x = true
  | 0 => ⟨fun h => absurd h List.not_mem_nil, fun h => by omega⟩
  | n + 1 => by
    rw [kndN, List.mem_append, kndN_mem]
    constructor
    · rintro (h | h)
      · exact ⟨h.1, by omega, h.2.2⟩
      · split at h
        · obtain rfl := List.mem_singleton.1 h
          exact ⟨by omega, by omega, ‹_›⟩
        · exact absurd h List.not_mem_nil
    · rintro ⟨h1, h2, h3⟩
      by_cases e : x = n + 1
      · subst e
        exact .inr (by rw [if_pos h3]; exact List.mem_singleton.2 rfl)
      · exact .inl ⟨h1, by omega, h3⟩
theorem kndN_rise (c : Nat) : ∀ n, (kndN c n).Pairwise (· < ·)
  | 0 => List.Pairwise.nil
  | n + 1 => by
    rw [kndN, List.pairwise_append]
    refine ⟨kndN_rise c n, ?_, fun a ha b hb => ?_⟩
    · split
      · exact List.pairwise_singleton _ _
      · exact List.Pairwise.nil
    · have := (kndN_mem.1 ha).2.1
      split at hb
      · obtain rfl := List.mem_singleton.1 hb
        omega
      · exact absurd hb List.not_mem_nil
theorem amo_knd {c : Nat} {k : Int} (h : 1 ≤ k ∧ k ≤ 18) : amoA (kndN c 18) k = belB c k.toNat := by
  refine Bool.eq_iff_iff.2 ((amoA_iff _ _).trans ⟨fun ⟨x, hx, e⟩ => ?_, fun hb => ⟨k.toNat, kndN_mem.2 ⟨by omega, by omega, hb⟩, by omega⟩⟩)
  subst e
  exact (kndN_mem.1 hx).2.2
theorem int_only {a b : List Int} (ha : a.Pairwise (· < ·)) (hb : b.Pairwise (· < ·)) (h : ∀ k, k ∈ a ↔ k ∈ b) : a = b := by
  have := rise_only (l := a.map fun k => Ar.mk k []) (m := b.map fun k => Ar.mk k []) (by rw [List.pairwise_map]; exact ha) (by rw [List.pairwise_map]; exact hb) (fun x => by
    rw [List.mem_map, List.mem_map]
    exact ⟨fun ⟨k, hk, e⟩ => ⟨k, (h k).1 hk, e⟩, fun ⟨k, hk, e⟩ => ⟨k, (h k).2 hk, e⟩⟩)
  have e := congrArg (List.map Ar.k) this
  rw [List.map_map, List.map_map] at e
  have i : ∀ c : List Int, c.map (Ar.k ∘ fun k => Ar.mk k []) = c := fun c => by
    conv => rhs; rw [← List.map_id c]
    rfl
  rwa [i, i] at e
theorem get_some {l : List Ar} {k : Int} : (getA l k).isSome = true ↔ k ∈ l.map Ar.k := by
  constructor
  · intro h
    cases e : getA l k with
    | none => rw [e] at h; cases h
    | some v =>
      obtain ⟨x, hx, h1, _⟩ := getA_mem e
      exact List.mem_map.2 ⟨x, hx, h1⟩
  · intro h
    obtain ⟨x, hx, e⟩ := List.mem_map.1 h
    cases g : getA l k with
    | none => exact absurd e (getA_none g x hx)
    | some v => rfl
/-- Are a list's kinds just these, in their order? -/
def eqfA (l : List Ar) (ks : List Nat) : Bool := decide (l.map Ar.k = ks.map fun (k : Nat) => (k : Int))
theorem eqf_knd {l : List Ar} (h : ∀ x ∈ l, x.good) : eqfA l (kndN (clsF (crdF l)) 18) = (upA l && kdsF (crdF l)) := by
  refine Bool.eq_iff_iff.2 ?_
  unfold eqfA upA kdsF
  rw [Bool.and_eq_true, decide_eq_true_iff, decide_eq_true_iff, List.all_eq_true]
  generalize clsF (crdF l) = c
  have cr : ∀ i, i ∈ List.range 18 → crdF l (i + 1) = getA l ((i : Int) + 1) := fun i hi => by
    have := List.mem_range.1 hi
    unfold crdF
    rw [if_pos ⟨by omega, by omega⟩]
    rfl
  constructor
  · intro e
    refine ⟨?_, fun i hi => ?_⟩
    · rw [e, List.pairwise_map]
      exact (kndN_rise c 18).imp fun h => Int.ofNat_lt.2 h
    · rw [cr i hi, beq_iff_eq]
      refine Bool.eq_iff_iff.2 (get_some.trans ?_)
      rw [e, List.mem_map]
      have := List.mem_range.1 hi
      exact ⟨fun ⟨x, hx, ex⟩ => by
        obtain rfl : x = i + 1 := by omega
        exact (kndN_mem.1 hx).2.2, fun hb => ⟨i + 1, kndN_mem.2 ⟨by omega, by omega, hb⟩, rfl⟩⟩
  · rintro ⟨hu, hk⟩
    refine int_only hu ?_ fun k => ?_
    · rw [List.pairwise_map]
      exact (kndN_rise c 18).imp fun h => Int.ofNat_lt.2 h
    · constructor
      · intro hm
        obtain ⟨x, hx, e⟩ := List.mem_map.1 hm
        have hg := h x hx
        have hr : k.toNat - 1 ∈ List.range 18 := List.mem_range.2 (by have := hg.1; have := hg.2.1; omega)
        have hk1 := hk _ hr
        have hi : ((k.toNat - 1 : Nat) : Int) + 1 = k := by have := hg.1; omega
        rw [cr _ hr, hi, get_some.2 hm, beq_iff_eq] at hk1
        refine List.mem_map.2 ⟨k.toNat, kndN_mem.2 ⟨by have := hg.1; omega, by have := hg.2.1; omega, ?_⟩, by have := hg.1; omega⟩
        rw [show k.toNat = k.toNat - 1 + 1 by have := hg.1; omega]
        exact hk1.symm
      · intro hm
        obtain ⟨x, hx, rfl⟩ := List.mem_map.1 hm
        obtain ⟨h1, h2, h3⟩ := kndN_mem.1 hx
        have hr : x - 1 ∈ List.range 18 := List.mem_range.2 (by omega)
        have hk1 := hk _ hr
        have hi : ((x - 1 : Nat) : Int) + 1 = (x : Int) := by omega
        rw [cr _ hr, hi, show x - 1 + 1 = x by omega, h3, beq_iff_eq] at hk1
        exact get_some.1 hk1
/-- Does no attribute belie another? -/
def souB (l : List Ar) : Bool := !((isA l 10 && !isA l 8) || (isA l 11 && isA l 9)) && (!anyA l [16, 17] || !anyA l [13, 14, 15])
theorem cls_get {l : List Ar} (h : ∀ x ∈ l, x.good) {v : List Nat} (e : getA l 1 = some v) : v.length = 1 ∧ clsF (crdF l) = v.getD 0 0 ∧ 1 ≤ v.getD 0 0 ∧ v.getD 0 0 ≤ 4 := by
  have hf := (good_of_get h e).2.2
  have ec : crdF l 1 = some v := e
  unfold fitA at hf
  rw [if_neg (by decide), if_neg (by decide)] at hf
  by_cases hl : v.length = 1
  · rw [if_pos hl, if_pos rfl] at hf
    unfold clsF
    rw [ec]
    exact ⟨hl, if_pos hl, of_decide_eq_true hf⟩
  · rw [if_neg hl] at hf
    cases hf
theorem cls_none {l : List Ar} (e : getA l 1 = none) : clsF (crdF l) = 0 := by
  have ec : crdF l 1 = none := e
  unfold clsF
  rw [ec]
  rfl
theorem val_none {l : List Ar} (e : getA l 1 = none) : valA l = false := by
  have ec : crdF l 1 = none := e
  unfold valA objF
  rw [ec]
  simp
theorem val_some {l : List Ar} (hf : fltA l = 0) {v : List Nat} (e : getA l 1 = some v) : valA l = (eqfA l (kndN (v.getD 0 0) 18) && (sizB (v.getD 0 0) ((getA l 4).getD []).length && souB l)) := by
  have hg := ((fltA_zero l).1 hf).2.1
  obtain ⟨hl, hc, -, -⟩ := cls_get hg e
  rw [← hc, eqf_knd hg]
  have e1 : (crdF l 1).isSome = true := by rw [show crdF l 1 = some v from e]; rfl
  have e4 : crdF l 4 = getA l 4 := rfl
  unfold valA objF keyF datF souB anyA
  rw [decide_eq_true hf, e1, e4, oneF_is (k := 8) (by decide), oneF_is (k := 9) (by decide), oneF_is (k := 10) (by decide), oneF_is (k := 11) (by decide), oneF_is (k := 13) (by decide), oneF_is (k := 14) (by decide), oneF_is (k := 15) (by decide), oneF_is (k := 16) (by decide), oneF_is (k := 17) (by decide)]
  simp only [List.any_cons, List.any_nil, Bool.or_false, Bool.true_and]
  have key : ∀ a b s x8 x9 x10 x11 p q r y z : Bool, (a && ((b && (true && s)) && (((!x10 || x8) && (!x11 || !x9)) && !((y || z) && ((p || q) || r))))) = ((a && b) && (s && (!((x10 && !x8) || (x11 && x9)) && (!(y || z) || !(p || (q || r)))))) := by
    intro a b s x8 x9 x10 x11 p q r y z
    cases a <;> cases b <;> cases s <;> cases x8 <;> cases x9 <;> cases x10 <;> cases x11 <;> try rfl
    all_goals revert p q r y z
    all_goals decide
  exact key (upA l) (kdsF (crdF l)) _ (isA l 8) (isA l 9) (isA l 10) (isA l 11) (isA l 13) (isA l 14) (isA l 15) (isA l 16) (isA l 17)
/-- A walk through a list: is each element of one of these kinds, and not denied? -/
def wlkE (ks : List Nat) (d : Ar → Bool) : List Ar → Nat
  | [] => 0
  | x :: l => if amoA ks x.k = false then 13 else if d x = true then 12 else wlkE ks d l
theorem wlk_mad (c : Nat) : ∀ {t : List Ar}, (∀ x ∈ t, x.good) → wlkE (kndN c 18) (fun x => amoA [10, 11, 12] x.k) t = badM c t
  | [], _ => rfl
  | x :: r, h => by
    have hg := h x List.mem_cons_self
    have e : (amoA [10, 11, 12] x.k = true) ↔ (10 ≤ x.k ∧ x.k ≤ 12) := by
      rw [amoA_iff]
      constructor
      · rintro ⟨y, hy, e⟩
        simp only [List.mem_cons, List.not_mem_nil, or_false] at hy
        omega
      · intro hk
        refine ⟨x.k.toNat, ?_, by omega⟩
        simp only [List.mem_cons, List.not_mem_nil, or_false]
        omega
    rw [wlkE, badM, amo_knd ⟨hg.1, hg.2.1⟩, wlk_mad c fun y hy => h y (List.mem_cons_of_mem _ hy)]
    simp only [e]
/-- Would the list be guarded less with that element? -/
def wkrA (l : List Ar) (x : Ar) : Bool := if x.k = 6 ∨ x.k = 8 then isA l x.k && !isA [x] x.k else if x.k = 9 then !isA l x.k && isA [x] x.k else false
def fixN (cp : Bool) : List Nat := if cp then [1, 4, 10, 11, 12] else [1, 4, 5, 6, 10, 11, 12]
theorem isA_one (x : Ar) : isA [x] x.k = decide (x.v = [1]) := by
  unfold isA
  have : getA [x] x.k = some x.v := by
    unfold getA
    rw [if_pos rfl]
  rw [this]
  rfl
theorem flag_good {x : Ar} (h : x.good) (hk : 5 ≤ x.k) : x.v = [0] ∨ x.v = [1] := by
  have hf := h.2.2
  unfold fitA at hf
  rw [if_neg (by omega), if_neg (by omega)] at hf
  by_cases hl : x.v.length = 1
  · rw [if_pos hl, if_neg (by omega)] at hf
    have := of_decide_eq_true hf
    match hv : x.v, hl with
    | [y], _ =>
      rw [hv] at this
      have : y ≤ 1 := this
      have : y = 0 ∨ y = 1 := by omega
      rcases this with rfl | rfl
      · exact .inl rfl
      · exact .inr rfl
  · rw [if_neg hl] at hf
    cases hf
theorem nay_fix {l : List Ar} {x : Ar} (h : x.good) (cp : Bool) : (amoA (fixN cp) x.k || wkrA l x) = nayB (crdF l) cp x := by
  have e6 : oneF (crdF l) 6 = isA l 6 := oneF_is (k := 6) (by decide)
  have e8 : oneF (crdF l) 8 = isA l 8 := oneF_is (k := 8) (by decide)
  have e9 : oneF (crdF l) 9 = isA l 9 := oneF_is (k := 9) (by decide)
  unfold wkrA nayB
  rw [isA_one, e6, e8, e9]
  by_cases h5 : 5 ≤ x.k
  · have hv := flag_good h h5
    have hk : x.k = 5 ∨ x.k = 6 ∨ x.k = 7 ∨ x.k = 8 ∨ x.k = 9 ∨ x.k = 10 ∨ x.k = 11 ∨ x.k = 12 ∨ x.k = 13 ∨ x.k = 14 ∨ x.k = 15 ∨ x.k = 16 ∨ x.k = 17 ∨ x.k = 18 := by have := h.2.1; omega
    rcases hk with e | e | e | e | e | e | e | e | e | e | e | e | e | e <;> rw [e] <;> rcases hv with e | e <;> rw [e] <;> cases cp <;> simp [amoA, fixN]
  · have hk : x.k = 1 ∨ x.k = 2 ∨ x.k = 3 ∨ x.k = 4 := by have := h.1; omega
    rcases hk with e | e | e | e <;> rw [e] <;> cases cp <;> simp [amoA, fixN]
theorem valKdsL {l : List Ar} (h : valA l = true) {k : Int} (hk : 1 ≤ k ∧ k ≤ 18) : (crdF l k.toNat).isSome = belB (clsF (crdF l)) k.toNat := by
  have ho := (val_parts h).2.2
  unfold objF kdsF at ho
  rw [Bool.and_eq_true, Bool.and_eq_true, List.all_eq_true] at ho
  have := ho.1.1 (k.toNat - 1) (List.mem_range.2 (by omega))
  rw [show k.toNat - 1 + 1 = k.toNat by omega] at this
  exact beq_iff_eq.1 this
theorem wlk_trn {l : List Ar} (hl : valA l = true) (cp : Bool) : ∀ {t : List Ar}, (∀ x ∈ t, x.good) → wlkE (kndN (clsF (crdF l)) 18) (fun x => amoA (fixN cp) x.k || wkrA l x) t = badT (crdF l) cp t
  | [], _ => rfl
  | x :: r, h => by
    have hg := h x List.mem_cons_self
    rw [wlkE, badT, amo_knd ⟨hg.1, hg.2.1⟩, wlk_trn hl cp fun y hy => h y (List.mem_cons_of_mem _ hy), valKdsL hl ⟨hg.1, hg.2.1⟩]
    simp only [nay_fix hg]
theorem val_over {l t : List Ar} (hl : ∀ x ∈ l, x.good) (ht : ∀ x ∈ t, x.good) : valA (ovrA l t) = objF (crdF (t ++ l)) := by
  have h0 := ovrA_good hl ht
  have hg := ((fltA_zero _).1 h0).2
  have hu : upA (ovrA l t) = true := (upA_iff hg).2 (risA_ris _).symm
  unfold valA
  rw [decide_eq_true h0, hu, Bool.true_and, Bool.true_and, ovrA, crdF_ris]
theorem val_atsF {f : Crd} (hf : FitF f) : valA (atsF f 19) = objF f := by
  unfold valA
  rw [decide_eq_true (atsF_flt hf), atsF_up, atsF_crd hf, Bool.true_and, Bool.true_and]
theorem mde_fitP {t : List Ar} {b : Bool} (hg : ∀ x ∈ t, x.good) (h1 : clsF (crdF t) ≠ 0) (h4 : crdF t 4 ≠ none) : FitF (mdeF t b) := by
  have ho := ov_fit hg h1 h4 (clsF (crdF t))
  unfold mdeF locF
  split
  · exact ((ho.put (by decide) (fit_flg (by decide) _)).put (by decide) (fit_flg (by decide) _)).put (by decide) (fit_flg (by decide) _)
  · exact ho
end Go.Proofs.Ytepaapiflkkghaa
