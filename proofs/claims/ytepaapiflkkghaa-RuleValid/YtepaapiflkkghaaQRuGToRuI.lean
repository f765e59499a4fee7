/- Texts that were joined: RuG, RuKn, AppZ, RuI. -/
import Derived.Test.YtepaapiflkkghaaQAtMToRuM
import Derived.Test.YtepaapiflkkghaaQBKToAtD
import Derived.Lib.AppendZerosOnto
import Derived.Test.YtepaapiflkkghaaQRuMd
import Derived.Test.YtepaapiflkkghaaQSameToAtK0
/- Objects as mathematics: what is made and what is changed is an object. -/
namespace Go.Proofs.Ytepaapiflkkghaa
set_option linter.unusedSimpArgs false
/-- Each value is one of its kind's. -/
def FitF (f : Crd) : Prop := ∀ k v, f k = some v → 1 ≤ k ∧ k ≤ 18 ∧ fitA (k : Int) v = true
theorem atsF_mem {f : Crd} : ∀ {n : Nat} {x : Ar}, x ∈ atsF f n ↔ ∃ k : Nat, k < n ∧ x.k = (k : Int) ∧ f k = some x.v
  | 0, x => ⟨fun h => absurd h List.not_mem_nil, fun ⟨_, h, _⟩ => absurd h (Nat.not_lt_zero _)⟩
  | n + 1, x => by
    rw [atsF, List.mem_append, atsF_mem]
    constructor
    · rintro (⟨k, h1, h2⟩ | h)
      · exact ⟨k, by omega, h2⟩
      · cases e : f n with
        | none => rw [e] at h; exact absurd h List.not_mem_nil
        | some v =>
          rw [e] at h
          obtain rfl := List.mem_singleton.1 h
          exact ⟨n, by omega, rfl, e⟩
    · rintro ⟨k, h1, h2, h3⟩
      by_cases hk : k = n
      · subst hk
        right
        rw [h3]
        exact List.mem_singleton.2 (by cases x; simp only at h2; rw [h2])
      · exact .inl ⟨k, by omega, h2, h3⟩
theorem atsF_rise (f : Crd) : ∀ n, (atsF f n).Pairwise fun a b => a.k < b.k
  | 0 => List.Pairwise.nil
  | n + 1 => by
    rw [atsF]
    refine List.pairwise_append.2 ⟨atsF_rise f n, ?_, fun x hx y hy => ?_⟩
    · cases f n with
      | none => exact List.Pairwise.nil
      | some v => exact List.pairwise_singleton _ _
    · obtain ⟨k, hk, h1, _⟩ := atsF_mem.1 hx
      cases e : f n with
      | none => rw [e] at hy; exact absurd hy List.not_mem_nil
      | some v =>
        rw [e] at hy
        obtain rfl := List.mem_singleton.1 hy
        simp only
        omega
theorem rise_nodup {l : List Ar} (h : l.Pairwise fun a b => a.k < b.k) : (l.map Ar.k).Nodup := by
  unfold List.Nodup
  rw [List.pairwise_map]
  exact h.imp fun h e => by omega
theorem atsF_getN {f : Crd} {n : Nat} (hf : ∀ k v, f k = some v → k < n) (k : Nat) : getA (atsF f n) (k : Int) = f k := by
  cases e : f k with
  | some v =>
    have hm : (⟨(k : Int), v⟩ : Ar) ∈ atsF f n := atsF_mem.2 ⟨k, hf k v e, rfl, e⟩
    exact getA_own (rise_nodup (atsF_rise f n)) _ hm
  | none =>
    cases hg : getA (atsF f n) (k : Int) with
    | none => rfl
    | some v =>
      obtain ⟨x, hx, hk, _⟩ := getA_mem hg
      obtain ⟨k', _, h1, h2⟩ := atsF_mem.1 hx
      have : k' = k := by omega
      rw [this, e] at h2
      cases h2
theorem atsF_getA {f : Crd} (hf : FitF f) (k : Nat) : getA (atsF f 19) (k : Int) = f k := atsF_getN (n := 19) (fun k v e => by have := hf k v e; omega) k
theorem atsF_crd {f : Crd} (hf : FitF f) : crdF (atsF f 19) = f := by
  have hA := fun k : Nat => atsF_getA hf k
  generalize atsF f 19 = L at *
  funext k
  unfold crdF
  by_cases h : 1 ≤ k ∧ k ≤ 18
  · rw [if_pos h]
    exact hA k
  · rw [if_neg h]
    cases e : f k with
    | none => rfl
    | some v =>
      have := hf k v e
      omega
theorem atsF_fltN {f : Crd} {n : Nat} (hn : n ≤ 24) (hf : FitF f) : fltA (atsF f n) = 0 := by
  refine (fltA_zero _).2 ⟨Nat.le_trans (atsF_len f n) hn, fun x hx => ?_, rise_nodup (atsF_rise f n)⟩
  obtain ⟨k, _, h1, h2⟩ := atsF_mem.1 hx
  have := hf k x.v h2
  unfold Ar.good
  rw [h1]
  exact ⟨by omega, by omega, this.2.2⟩
theorem atsF_flt {f : Crd} (hf : FitF f) : fltA (atsF f 19) = 0 := atsF_fltN (by decide) hf
theorem atsF_up (f : Crd) (n : Nat) : upA (atsF f n) = true := by
  unfold upA
  refine decide_eq_true ?_
  rw [List.pairwise_map]
  exact atsF_rise f n
theorem valA_ats {f : Crd} (hf : FitF f) (ho : objF f = true) : valA (atsF f 19) = true := by
  unfold valA
  rw [atsF_flt hf, atsF_up, atsF_crd hf, ho]
  rfl
theorem FitF.put {f : Crd} (hf : FitF f) {k : Nat} {v : List Nat} (hk : 1 ≤ k ∧ k ≤ 18) (hv : fitA (k : Int) v = true) : FitF (putF f k v) := fun i x e => by
  unfold putF at e
  by_cases h : i = k
  · rw [if_pos h] at e
    obtain rfl := Option.some.inj e
    rw [h]
    exact ⟨hk.1, hk.2, hv⟩
  · rw [if_neg h] at e
    exact hf i x e
theorem fit_flg {k : Nat} (hk : 5 ≤ k) (b : Bool) : fitA (k : Int) (flgV b) = true := by
  unfold fitA
  rw [if_neg (by omega), if_neg (by omega)]
  cases b with
  | true =>
    rw [if_pos (show (flgV true).length = 1 from rfl), if_neg (by omega)]
    rfl
  | false =>
    rw [if_pos (show (flgV false).length = 1 from rfl), if_neg (by omega)]
    rfl
theorem crdF_fit {t : List Ar} (h : ∀ x ∈ t, x.good) : FitF (crdF t) := fun k v e => by
  unfold crdF at e
  by_cases hk : 1 ≤ k ∧ k ≤ 18
  · rw [if_pos hk] at e
    obtain ⟨x, hx, h1, rfl⟩ := getA_mem e
    have := (h x hx).2.2
    rw [h1] at this
    exact ⟨hk.1, hk.2, this⟩
  · rw [if_neg hk] at e
    cases e
/-- What holds of a template that makes an object. -/
theorem mad_zero {t : List Ar} {b : Bool} (h : madE t b = 0) : fltA t = 0 ∧ clsF (crdF t) ≠ 0 ∧ badM (clsF (crdF t)) t = 0 ∧ crdF t 4 ≠ none ∧ sizB (clsF (crdF t)) ((crdF t 4).getD []).length = true ∧ objF (mdeF t b) = true := by
  unfold madE at h
  split at h
  · exact absurd h ‹_›
  · split at h
    · cases h
    · split at h
      · exact absurd h ‹_›
      · split at h
        · cases h
        · split at h
          · cases h
          · split at h
            · refine ⟨?_, ‹_›, ?_, ‹_›, ?_, ‹_›⟩
              · exact Classical.not_not.1 ‹¬ fltA t ≠ 0›
              · exact Classical.not_not.1 ‹¬ badM (clsF (crdF t)) t ≠ 0›
              · simpa using ‹¬ sizB (clsF (crdF t)) ((crdF t 4).getD []).length = false›
            · cases h
theorem ov_fit {t : List Ar} (h : ∀ x ∈ t, x.good) (h1 : clsF (crdF t) ≠ 0) (h4 : crdF t 4 ≠ none) (c : Nat) : FitF (ovF (dftF c 19) (crdF t)) := fun k v e => by
  unfold ovF at e
  cases hk : crdF t k with
  | some x =>
    rw [hk, Option.some_or] at e
    obtain rfl := Option.some.inj e
    exact crdF_fit h k x hk
  | none =>
    rw [hk, Option.none_or] at e
    unfold dftF at e
    by_cases hb : 1 ≤ k ∧ k < 19 ∧ belB c k = true
    · rw [if_pos hb] at e
      obtain rfl := Option.some.inj e
      refine ⟨hb.1, by omega, ?_⟩
      by_cases k4 : 4 < k
      · rw [if_pos k4]
        exact fit_flg k4 _
      · rw [if_neg k4]
        have hk1 : k ≠ 1 := fun e => by
          subst e
          apply h1
          unfold clsF
          rw [hk]
          rfl
        have hk4 : k ≠ 4 := fun e => by
          subst e
          exact h4 hk
        unfold fitA
        rw [if_pos (by omega)]
        rfl
    · rw [if_neg hb] at e
      cases e
theorem mde_fit {t : List Ar} {b : Bool} (h : madE t b = 0) : FitF (mdeF t b) := by
  obtain ⟨h0, h1, _, h4, _, _⟩ := mad_zero h
  have hg := ((fltA_zero t).1 h0).2.1
  have ho := ov_fit hg h1 h4 (clsF (crdF t))
  unfold mdeF locF
  split
  · exact ((ho.put (by decide) (fit_flg (by decide) _)).put (by decide) (fit_flg (by decide) _)).put (by decide) (fit_flg (by decide) _)
  · exact ho
/-- What is made is an object. -/
theorem mad_val {t : List Ar} {b : Bool} (h : madE t b = 0) : valA (atsF (madF t b) 19) = true := by
  unfold madF
  rw [if_pos h]
  exact valA_ats (mde_fit h) (mad_zero h).2.2.2.2.2
theorem val_parts {l : List Ar} (h : valA l = true) : fltA l = 0 ∧ l = risA l ∧ objF (crdF l) = true := by
  unfold valA at h
  rw [Bool.and_eq_true, Bool.and_eq_true] at h
  have h0 := of_decide_eq_true h.1
  exact ⟨h0, (upA_iff ((fltA_zero l).1 h0).2).1 h.2.1, h.2.2⟩
theorem crdF_ris (l : List Ar) : crdF (risA l) = crdF l := by
  funext k
  unfold crdF
  by_cases h : 1 ≤ k ∧ k ≤ 18
  · rw [if_pos h, if_pos h, risA_get, if_pos ⟨by omega, by omega⟩]
  · rw [if_neg h, if_neg h]
/-- What holds of a list that changes an object. -/
theorem trn_zero {l t : List Ar} {cp : Bool} (h : trnE l t cp = 0) : valA l = true ∧ fltA t = 0 ∧ ¬ (oneF (crdF l) 7 = false ∧ cp = false) ∧ badT (crdF l) cp t = 0 ∧ objF (crdF (t ++ l)) = true := by
  unfold trnE at h
  split at h
  · cases h
  · split at h
    · exact absurd h ‹_›
    · split at h
      · cases h
      · split at h
        · exact absurd h ‹_›
        · split at h
          · refine ⟨?_, Classical.not_not.1 ‹¬ fltA t ≠ 0›, ‹_›, Classical.not_not.1 ‹¬ badT (crdF l) cp t ≠ 0›, ‹_›⟩
            simpa using ‹¬ valA l = false›
          · cases h
/-- What is changed is an object. -/
theorem trn_val {l t : List Ar} {cp : Bool} (h : trnE l t cp = 0) : valA (ovrA l t) = true := by
  obtain ⟨h1, h2, _, _, h5⟩ := trn_zero h
  have hv := val_parts h1
  have hl := ((fltA_zero l).1 hv.1).2
  have ht := ((fltA_zero t).1 h2).2
  unfold valA
  rw [ovrA_good hl.1 ht.1]
  have hr : upA (ovrA l t) = true := by
    unfold upA
    refine decide_eq_true ?_
    rw [List.pairwise_map]
    exact risA_rise (t ++ l)
  have hc : crdF (ovrA l t) = crdF (t ++ l) := crdF_ris (t ++ l)
  rw [hr, hc, h5]
  rfl
/-- Of a list that changes an object no element may not be changed, and each kind is there. -/
theorem badT_zero {c : Crd} {cp : Bool} : ∀ {t : List Ar}, badT c cp t = 0 → ∀ x ∈ t, (c x.k.toNat).isSome = true ∧ nayB c cp x = false
  | [], _, x, hx => absurd hx List.not_mem_nil
  | y :: t, h, x, hx => by
    rw [badT] at h
    split at h
    · cases h
    · split at h
      · cases h
      · rcases List.mem_cons.1 hx with rfl | hx
        · exact ⟨(Bool.eq_false_or_eq_true _).resolve_right ‹¬ (c x.k.toNat).isSome = false›, (Bool.eq_false_or_eq_true _).resolve_left ‹¬ nayB c cp x = true›⟩
        · exact badT_zero h x hx
end Go.Proofs.Ytepaapiflkkghaa

/- The kinds of a class. -/
namespace Go.Proofs.Ytepaapiflkkghaa
set_option linter.unusedSimpArgs false
/-- The kinds of a class. -/
def kndN (c : Nat) : Nat → List Nat
  | 0 => []
  | n + 1 => kndN c n ++ (if belB c (n + 1) = true then [n + 1] else [])
theorem kndN_len (c : Nat) : ∀ n, (kndN c n).length ≤ n
  | 0 => Nat.le_refl _
  | n + 1 => by
    have := kndN_len c n
    rw [kndN, List.length_append]
    split <;> simp <;> omega
end Go.Proofs.Ytepaapiflkkghaa

/- append of as many bytes 0 as a number says (append of a made slice) to a row of bytes that the call made. -/
namespace Go.Proofs.Ytepaapiflkkghaa
open Go.RowKit
set_option linter.unusedSimpArgs false
theorem uInt_ : Try.prog.underlying 3 = some (.int .i64) := by kernel_rfl
end Go.Proofs.Ytepaapiflkkghaa

/- Slices of kinds. -/
namespace Go.Proofs.Ytepaapiflkkghaa
open Go.RowKit Go.Deep Go.ChangeShapes
attribute [local go_sem] World.cell?_alloc_some cell_alloc2 cell_alloc3 cell_alloc4 frozen?_alloc_cells frozen_out
attribute [local go_sem] YieldsP execOp
attribute [local simp] MP.eq_p
set_option linter.unusedSimpArgs false
theorem uIntsK : Try.prog.underlying 23 = some (.slice 3) := by kernel_rfl
theorem iIntK : (Try.prog.info? 3).map (fun i => (i.zero, i.size, i.bytes)) = some (some (.int .i64 0), 1, 8) := by kernel_rfl
def dK (x : Nat) : Value := .int .i64 (x : Int)
/-- The slice v holds the numbers l. -/
def Ki (w : World) (v : Value) (l : List Nat) : Prop :=
  ∃ a c, v = .slice a l.length c ∧ l.length ≤ c ∧ (0 < l.length → ∃ b o, a = some ⟨b, o, none⟩ ∧ ∀ j x, l[j]? = some x → w.cell? ⟨b, o + j, none⟩ = some (dK x))
theorem Ki.up {W w1 : World} {v : Value} {l : List Nat} (h : Ki W v l) (hb : Below W.heap.size W w1) : Ki w1 v l := by
  obtain ⟨a, c, e, h1, h2⟩ := h
  refine ⟨a, c, e, h1, fun hp => ?_⟩
  obtain ⟨b, o, e2, hc⟩ := h2 hp
  exact ⟨b, o, e2, fun j x hx => (hb.cell (p := ⟨b, _, none⟩) (lt_of_cellB (hc j x hx))).trans (hc j x hx)⟩
/-- A row of numbers that the call made. -/
def Ko (w : World) (B : Nat) (v : Value) (l : List Nat) : Prop := w.ownsRow B 3 1 v l.length (l.map dK)
theorem Ko.nil (w : World) (B : Nat) : Ko w B (.slice none 0 0) [] := World.ownsRow_nil _ _ _ _
theorem Ko.up {W w1 : World} {B : Nat} {v : Value} {l : List Nat} (h : Ko W B v l) (hb : Below W.heap.size W w1) : Ko w1 B v l := own_upA h hb
theorem Ko.ki {w : World} {B : Nat} {v : Value} {l : List Nat} (h : Ko w B v l) : Ki w v l := by
  rcases id h.2 with ⟨e, e2⟩ | ⟨g, cap, cur, e, hB, hg, hn, rest⟩
  · rw [List.length_eq_zero_iff.1 e2, e]
    exact ⟨none, 0, rfl, Nat.le_refl _, fun h => absurd h (Nat.lt_irrefl _)⟩
  · rw [e]
    refine ⟨_, cap, rfl, hn, fun _ => ⟨g, 0, rfl, fun j x hx => ?_⟩⟩
    have hj := (List.getElem?_eq_some_iff.1 hx).1
    have h2 : w.ownsRow B 3 1 (.slice (some ⟨g, 0, none⟩) l.length cap) l.length (l.map dK) := by rw [← e]; exact h
    rw [Nat.zero_add, h2.cellAt j (by omega), List.getElem?_map, hx]
    rfl
/-- append of one number. -/
theorem wp_appK {ops : Array Oper} {rest : List Oper} {o : Oper} {a : Act} {Q : Exit → Act → World → Prop} {w : World} (hgd : o.guard = none) (s x : Operand)
    (ho : o.op = .call { callee := .builtin .append, args := #[s, x], argTypes := #[23, 23] })
    (B : Nat) (v : Value) (l : List Nat) (b y : Nat) (hs : a.eval s = v) (hown : Ko w B v l) (hx : a.eval x = .slice (some ⟨b, 0, none⟩) 1 1) (hy : w.cell? ⟨b, 0, none⟩ = some (dK y)) (hl : l.length ≤ 1000) (hB : B ≤ w.heap.size)
    (h : ∀ v' w', Ko w' B v' (l ++ [y]) → w.grownBy w' v.ownBlock → wpList Try.prog ops Q rest (a.put o.dst v') w') : wpList Try.prog ops Q (o :: rest) a w := by
  obtain ⟨i0, hi, hz0, hz1, hz2⟩ := info_parts iIntK
  refine wpList_append_own w hgd s x 23 ho B 3 i0 (.int .i64 0) 1 8 uIntsK hi hz0 hz1 hz2 rfl (by decide) v l.length (l.map dK) hs hown ⟨b, 0, none⟩ 1 1 [dK y] hx rfl ?_ ?_ ?_ ?_ ?_ ?_
  · intro j u hj
    have hj1 := (List.getElem?_eq_some_iff.1 hj).1
    obtain rfl : j = 0 := by simp only [List.length_cons, List.length_nil] at hj1; omega
    obtain rfl := Option.some.inj hj
    exact hy
  · intro u hu
    obtain rfl := List.mem_singleton.1 hu
    rfl
  · unfold maxLen; omega
  · omega
  · omega
  · intro v' w' h1 h2 _
    refine h v' w' ?_ h2
    unfold Ko
    rw [List.map_append, List.length_append]
    exact h1
theorem ki_parts {w : World} {v : Value} {l : List Nat} (h : Ki w v l) : ∃ a c, v = .slice a l.length c := by
  obtain ⟨a, c, e, -⟩ := h
  exact ⟨a, c, e⟩
theorem Ki.addr {w : World} {a : Option Addr} {n c : Nat} {l : List Nat} (h : Ki w (.slice a n c) l) (hn : 0 < l.length) : ∃ b o, a = some ⟨b, o, none⟩ := by
  obtain ⟨a', c', e, -, h2⟩ := h
  cases e
  obtain ⟨b, o, rfl, -⟩ := h2 hn
  exact ⟨b, o, rfl⟩
theorem Ki.cell {w : World} {b o n c : Nat} {l : List Nat} (h : Ki w (.slice (some ⟨b, o, none⟩) n c) l) {j x : Nat} (hx : l[j]? = some x) : w.cell? ⟨b, o + j, none⟩ = some (dK x) := by
  obtain ⟨a', c', e, -, h2⟩ := h
  cases e
  have hj := (List.getElem?_eq_some_iff.1 hx).1
  obtain ⟨b', o', e, h3⟩ := h2 (by omega)
  cases e
  exact h3 j x hx
set_option maxHeartbeats 1000000 in
theorem equalK_nil (a d : Option Addr) (c e : Nat) (w : World) : Calls Try.prog 12 #[.slice a 0 c, .slice d 0 e] w fun e w' => e = .returned (.bool true) ∧ Below w.heap.size w w' := by
  go_enter Try.func12, Try.ntmps12
  go_wp2_with fail
  refine wp_loop_rounds 1 ?_
  rw [rounds_succ]
  go_wp2_with fail
  go_ret
  exact ⟨rfl, Below.refl _ _⟩
set_option maxRecDepth 20000 in
set_option maxHeartbeats 2000000 in
theorem equalK_walk (l : List Nat) (n : Nat) (hn : l.length = n) (hs : n ≤ 1000) (b o c d q e : Nat) (w : World) (HA : Hid (Ki w (.slice (some ⟨b, o, none⟩) n c) l)) (HB : Hid (Ki w (.slice (some ⟨d, q, none⟩) n e) l)) :
    Calls Try.prog 12 #[.slice (some ⟨b, o, none⟩) n c, .slice (some ⟨d, q, none⟩) n e] w fun e w' => e = .returned (.bool true) ∧ Below w.heap.size w w' := by
  have HN : Hid (l.length = n ∧ (n : Int) ≤ 1000) := ⟨hn, by omega⟩
  clear hn hs
  go_enter Try.func12, Try.ntmps12
  go_wp2_with fail
  go_loopw [13] (fun i wr => ∃ j : Nat, j ≤ n ∧ i = .int .i64 (j : Int) ∧ Hid (Below w.heap.size w wr)) (fun i _ => n - (intOf i).toNat)
  case atStart => exact ⟨0, Nat.zero_le _, rfl, Below.refl _ _⟩
  case round =>
    obtain ⟨j, hj, rfl, bk⟩ := hrel
    by_cases hlt : j < n
    · have i1 : (j : Int) < (n : Int) := by omega
      have i0 : (0 : Int) ≤ (j : Int) := by omega
      have jn : (n : Int) ≤ 1000 := HN.out.2
      have HJ : Hid (j < n) := hlt
      obtain ⟨x, hx⟩ : ∃ x, Hid (l[j]? = some x) := ⟨l[j]'(by have := HN.out; omega), List.getElem?_eq_getElem _⟩
      have CA : Hid (∀ W, Below wr.heap.size wr W → W.cell? ⟨b, o + j, none⟩ = some (.int .i64 (x : Int))) := fun W hW => ((HA.out.up (bk.out.trans (hW.mono bk.out.size)))).cell hx.out
      have CB : Hid (∀ W, Below wr.heap.size wr W → W.cell? ⟨d, q + j, none⟩ = some (.int .i64 (x : Int))) := fun W hW => ((HB.out.up (bk.out.trans (hW.mono bk.out.size)))).cell hx.out
      clear hlt hj
      go_wp2_with fail
      refine wp_region_monoE [MP.eq (.slice (some ⟨b, o, none⟩) n c), MP.eq (.int .i64 (j : Int)), MP.eq (.pointer (some ⟨b, o + j, none⟩)), MP.eq (.int .i64 (x : Int)), MP.eq (.slice (some ⟨d, q, none⟩) n e), MP.eq (.int .i64 (j : Int)), MP.eq (.pointer (some ⟨d, q + j, none⟩)), MP.eq (.int .i64 (x : Int)), MP.eq (.bool false)] (by kernel_rfl) (by kernel_rfl) rfl ?_
      apply Exists.intro
      refine ⟨fun vals => ?_, ?_, fun vals2 w2 hb2 hF => ?_⟩
      · simp only [putsV, dstL, List.length_cons, List.length_nil, Nat.zero_add, Nat.reduceAdd, List.getElem?_cons_zero, List.getElem?_cons_succ, Option.bind_some, Act.put, List.setIfInBounds_toArray, List.set_cons_succ, List.set_cons_zero]
        rfl
      · refine ⟨?_, ?_, ?_, ?_, ?_, ?_, ?_, ?_, ?_, trivial⟩
        · intro vals W hW hw hd
          try simp [Region.binds] at hd
          refine ⟨by first | rfl | simp [Region.wanted, yielded, hd], ?_⟩
          simp [go_sem, hd]
          exact Below.refl _ _
        · intro vals W hW hw hd
          try simp [Region.binds] at hd
          refine ⟨by first | rfl | simp [Region.wanted, yielded, hd], ?_⟩
          simp [go_sem, hd]
          exact Below.refl _ _
        · intro vals W hW hw hd
          try simp [Region.binds] at hd
          refine ⟨by first | rfl | simp [Region.wanted, yielded, hd], ?_⟩
          simp [go_sem, hd, i0, i1]
          exact Below.refl _ _
        · intro vals W hW hw hd
          try simp [Region.binds] at hd
          refine ⟨by first | rfl | simp [Region.wanted, yielded, hd], ?_⟩
          have u0 := CA.out W hW.out
          simp [go_sem, hd, u0]
          exact Below.refl _ _
        · intro vals W hW hw hd
          try simp [Region.binds] at hd
          refine ⟨by first | rfl | simp [Region.wanted, yielded, hd], ?_⟩
          simp [go_sem, hd]
          exact Below.refl _ _
        · intro vals W hW hw hd
          try simp [Region.binds] at hd
          refine ⟨by first | rfl | simp [Region.wanted, yielded, hd], ?_⟩
          simp [go_sem, hd]
          exact Below.refl _ _
        · intro vals W hW hw hd
          try simp [Region.binds] at hd
          refine ⟨by first | rfl | simp [Region.wanted, yielded, hd], ?_⟩
          simp [go_sem, hd, i0, i1]
          exact Below.refl _ _
        · intro vals W hW hw hd
          try simp [Region.binds] at hd
          refine ⟨by first | rfl | simp [Region.wanted, yielded, hd], ?_⟩
          have u0 := CB.out W hW.out
          simp [go_sem, hd, u0]
          exact Below.refl _ _
        · intro vals W hW hw hd
          try simp [Region.binds] at hd
          refine ⟨by first | rfl | simp [Region.wanted, yielded, hd], ?_⟩
          simp [go_sem, hd]
          exact Below.refl _ _
      obtain ⟨f0, f1, f2, f3, f4, f5, f6, f7, f8, _⟩ := hF
      simp only [MP.eq_p] at f0 f1 f2 f3 f4 f5 f6 f7 f8
      have b2 : Hid (Below w.heap.size w w2) := bk.out.trans (hb2.out.mono bk.out.size)
      rw [f8]
      clear f0 f1 f2 f3 f4 f5 f6 f7 f8 hb2 CA CB bk
      go_wp2_with fail
      go_roundw
      case rel => exact ⟨j + 1, HJ.out, by go_num, b2⟩
      case measure => simp [intOf]; have := HJ.out; omega
    · have i1 : ¬ (j : Int) < (n : Int) := by omega
      clear hlt hj
      go_wp2_with fail
      go_ret
      exact ⟨rfl, bk.out⟩
/-- slices.Equal, at one list. -/
theorem equalK_fun (l : List Nat) (hs : l.length ≤ 1000) (u v : Value) (w : World) (hu : Ki w u l) (hv : Ki w v l) :
    Calls Try.prog 12 #[u, v] w fun e w' => e = .returned (.bool true) ∧ Below w.heap.size w w' := by
  obtain ⟨a, c, rfl⟩ := ki_parts hu
  obtain ⟨d, e, rfl⟩ := ki_parts hv
  by_cases h0 : l.length = 0
  · have el := List.length_eq_zero_iff.1 h0
    subst el
    exact equalK_nil a d c e w
  · obtain ⟨b, o, rfl⟩ := hu.addr (by omega)
    obtain ⟨b', o', rfl⟩ := hv.addr (by omega)
    exact equalK_walk l l.length rfl hs b o c b' o' e w hu hv
end Go.Proofs.Ytepaapiflkkghaa
