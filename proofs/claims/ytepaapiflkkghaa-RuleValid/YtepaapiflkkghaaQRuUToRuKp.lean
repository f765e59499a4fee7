/- Texts that were joined: RuU, RuSa, RuTu, RuTw, RuKp. -/
import Derived.Test.YtepaapiflkkghaaQAtOz
import Derived.Test.YtepaapiflkkghaaQRuGToRuI
import Derived.Test.YtepaapiflkkghaaQRlK
import Derived.Test.YtepaapiflkkghaaQAtL
import Derived.Test.YtepaapiflkkghaaQDerWToAtA
import Derived.Deep.CutRange
import Derived.Test.YtepaapiflkkghaaQAtS
/- Turnings among the arguments: what a slice of them holds, out of its reading. -/
namespace Go.Proofs.Ytepaapiflkkghaa
open Go.ChangeShapes Go.WideShapes Go.ChangeAt Go.RowKit Go.Deep
/-- A turning: copied, or changed; by a template. -/
structure Tu where
  c : Bool
  l : List Ar
def tu0 : Tu := ⟨false, []⟩
/-- A template as its bounds are. -/
def Tu.ok (x : Tu) : Prop := (∀ y ∈ x.l, y.ok) ∧ x.l.length ≤ 140737488351232 ∧ ∀ y ∈ x.l, y.v.length ≤ 140737488351232
theorem Try.uTurns : Try.prog.underlying 49 = some (.slice 52) := by kernel_rfl
theorem cellsTurn : Try.prog.cellsOf 52 = 2 := by kernel_rfl
theorem cellsBoolU : Try.prog.cellsOf 4 = 1 := by kernel_rfl
theorem cellsAttrsU : Try.prog.cellsOf 22 = 1 := by kernel_rfl
theorem uBoolU : Try.prog.underlying 4 = some .bool := by kernel_rfl
/-- The slice v holds the turnings l. -/
def Tus (w : World) (v : Value) (l : List Tu) : Prop :=
  ∃ a c, v = .slice a l.length c ∧ l.length ≤ c ∧ (0 < l.length → ∃ b o, a = some ⟨b, o, none⟩ ∧ ∀ j x, l[j]? = some x → w.cell? ⟨b, o + j * 2, none⟩ = some (.bool x.c) ∧ ∃ u, w.cell? ⟨b, o + j * 2 + 1, none⟩ = some u ∧ Ats w u x.l)
theorem Tus.up {W w1 : World} {v : Value} {l : List Tu} (h : Tus W v l) (hb : Below W.heap.size W w1) : Tus w1 v l := by
  obtain ⟨a, c, e, h1, h3⟩ := h
  refine ⟨a, c, e, h1, fun hp => ?_⟩
  obtain ⟨b, o, e2, hc⟩ := h3 hp
  refine ⟨b, o, e2, fun j x hx => ?_⟩
  obtain ⟨t1, u, t2, t3⟩ := hc j x hx
  exact ⟨(hb.cell (p := ⟨b, _, none⟩) (lt_of_cellB t1)).trans t1, u, (hb.cell (p := ⟨b, _, none⟩) (lt_of_cellB t2)).trans t2, t3.up hb (Nat.le_refl _)⟩
theorem tus_parts {w : World} {v : Value} {l : List Tu} (h : Tus w v l) : ∃ a c, v = .slice a l.length c := by
  obtain ⟨a, c, e, -⟩ := h
  exact ⟨a, c, e⟩
theorem Tus.addr {w : World} {a : Option Addr} {n c : Nat} {l : List Tu} (h : Tus w (.slice a n c) l) (hn : 0 < l.length) : ∃ b o, a = some ⟨b, o, none⟩ := by
  obtain ⟨a', c', e, -, h2⟩ := h
  cases e
  obtain ⟨b, o, rfl, -⟩ := h2 hn
  exact ⟨b, o, rfl⟩
/-- An element's cells, and its template. -/
theorem Tus.elem {w : World} {b o n c : Nat} {l : List Tu} (h : Tus w (.slice (some ⟨b, o, none⟩) n c) l) {j : Nat} {x : Tu} (hx : l[j]? = some x) : ∃ a d, w.cell? ⟨b, o + j * 2, none⟩ = some (.bool x.c) ∧ w.cell? ⟨b, o + j * 2 + 1, none⟩ = some (.slice a x.l.length d) ∧ Ats w (.slice a x.l.length d) x.l := by
  obtain ⟨a', c', e, -, h2⟩ := h
  cases e
  have hj := (List.getElem?_eq_some_iff.1 hx).1
  obtain ⟨b', o', e, h3⟩ := h2 (by omega)
  cases e
  obtain ⟨h1, u, h4, h5⟩ := h3 j x hx
  obtain ⟨a, d, rfl⟩ := ats_parts h5
  exact ⟨a, d, h1, h4, h5⟩
section
variable {H : Type} {enc : TypeId × Value → H} {w : World} {base : Nat} {spare : Nat → Bool} {held : Bool}
theorem tus_open {fuel : Nat} {v : Value} {x : DataW H × List MemPlace} (h : DataW.trod enc Try.prog w base spare held fuel 49 [v] = some x)
    (hB : ∀ (elems sp : List (DataW H)), x.1 = .slice elems sp → ∀ (i : Nat) (d0 : DataW H) (es sp' : List (DataW H)), elems[i]? = some (DataW.agg [d0, .slice es sp']) → es.length ≤ 140737488351232 ∧ ∀ (i' : Nat) (d1 : DataW H) (es2 sp2 : List (DataW H)), es[i']? = some (DataW.agg [d1, .slice es2 sp2]) → es2.length ≤ 140737488351232) :
    ∃ l, (∀ x ∈ l, Tu.ok x) ∧ Tus w v l := by
  rcases open_slice_pairs Try.uTurns Try.underlying52 cellsTurn rfl rfl cellsBoolU cellsAttrsU h with ⟨hcs, hx⟩ | ⟨a, len, cap, m, n, V0, V1, D0, D1, P0, P1, hcs, _, hl, hm, hme, hx, hcell⟩
  · obtain rfl : v = .slice none 0 0 := by simpa using hcs
    exact ⟨[], by simp, none, 0, rfl, Nat.le_refl _, fun h => absurd h (Nat.lt_irrefl _)⟩
  · obtain rfl : v = .slice (some a) len cap := by simpa using hcs
    have hle : len ≤ m := by
      rw [hme]
      by_cases hs : spare a.block = true <;> simp [hs] <;> omega
    have each : ∀ i, i < len → ∃ x : Tu, x.ok ∧ w.cell? (a.add (i * 2)) = some (.bool x.c) ∧ ∃ u, w.cell? (a.add (i * 2 + 1)) = some u ∧ Ats w u x.l := by
      intro i hi
      obtain ⟨c0, c1, t0, t1⟩ := hcell i (by omega)
      obtain ⟨bz, hz, _⟩ := DataW.trod_bool uBoolU t0
      have hv : V0 i = .bool bz := by simpa using hz
      have hD : ∀ es sp, D1 i = .slice es sp → es.length ≤ 140737488351232 ∧ ∀ (i' : Nat) (d1 : DataW H) (es2 sp2 : List (DataW H)), es[i']? = some (DataW.agg [d1, .slice es2 sp2]) → es2.length ≤ 140737488351232 := fun es sp hd => hB _ _ (by rw [hx]) i (D0 i) es sp (by simp [hi, hd])
      obtain ⟨l, h1, h2, h3, h4⟩ := ats_openZ t1 140737488351232 fun elems sp hd i' d1 es2 sp2 he => (hD elems sp hd).2 i' d1 es2 sp2 he
      refine ⟨⟨bz, l⟩, ⟨h1, ?_, h2⟩, by rw [c0, hv], V1 i, c1, h3⟩
      rcases h4 with ⟨_, h⟩ | ⟨es, sp, hd, h⟩
      · show l.length ≤ _
        rw [h]
        exact Nat.zero_le _
      · have := (hD es sp hd).1
        show l.length ≤ _
        omega
    have hinh : Inhabited Tu := ⟨tu0⟩
    obtain ⟨f, hf⟩ := choose_lt each
    refine ⟨(List.range len).map f, ?_, some a, cap, by simp, by simpa using hl, fun hp => ?_⟩
    · intro x hx
      simp only [List.mem_map, List.mem_range] at hx
      obtain ⟨i, hi, rfl⟩ := hx
      exact (hf i hi).1
    · have hp' : 0 < len := by simpa using hp
      have h0 := (hf 0 hp').2.1
      rw [Nat.zero_mul, Addr.add_zero'] at h0
      have hs := spotless h0
      refine ⟨a.block, a.off, congrArg some hs, fun j x hx => ?_⟩
      have hj : j < len := by
        have := (List.getElem?_eq_some_iff.1 hx).1
        simpa using this
      have e : f j = x := by simpa [hj] using hx
      obtain ⟨_, c0, u, c1, h2⟩ := hf j hj
      rw [hs, Addr.add_lit, e] at c0
      rw [hs, Addr.add_lit] at c1
      rw [e] at h2
      exact ⟨c0, u, by rw [Nat.add_assoc]; exact c1, h2⟩
end
theorem wts_each {H : Type} : ∀ (ts : List TypeId) (ds : List (DataW H)) (j : Nat) (t : TypeId) (d : DataW H), ts[j]? = some t → ds[j]? = some d → ∀ z ∈ d.weights Try.prog t, z ∈ DataW.weightsEach Try.prog ts ds := by
  intro ts
  induction ts with
  | nil => intro ds j t d h; simp at h
  | cons t0 ts ih =>
    intro ds j t d h1 h2 z hz
    cases ds with
    | nil => simp at h2
    | cons d0 ds =>
      rw [DataW.weightsEach]
      cases j with
      | zero =>
        simp at h1 h2
        subst h1 h2
        exact List.mem_append.2 (.inl hz)
      | succ j => exact List.mem_append.2 (.inr (ih ds j t d (by simpa using h1) (by simpa using h2) z hz))
theorem wts_all {H : Type} : ∀ (e : TypeId) (l : List (DataW H)) (i : Nat) (d : DataW H), l[i]? = some d → ∀ z ∈ d.weights Try.prog e, z ∈ DataW.weightsAll Try.prog e l := by
  intro e l
  induction l with
  | nil => intro i d h; simp at h
  | cons d0 l ih =>
    intro i d h z hz
    rw [DataW.weightsAll]
    cases i with
    | zero =>
      simp at h
      subst h
      exact List.mem_append.2 (.inl hz)
    | succ i => exact List.mem_append.2 (.inr (ih i d (by simpa using h) z hz))
/-- What a template among turnings weighs, and a value in it. -/
theorem sized_innerU {H : Type} {ts : List TypeId} {ds : List (DataW H)} (h : (DataW.weightsEach Try.prog ts ds).all (· ≤ reachBytes) = true) {j : Nat} {elems sp : List (DataW H)} (ht : ts[j]? = some 49) (hd : ds[j]? = some (.slice elems sp)) {i : Nat} {d0 : DataW H} {es sp' : List (DataW H)} (he : elems[i]? = some (.agg [d0, .slice es sp'])) :
    es.length ≤ 140737488351232 ∧ ∀ (i' : Nat) (d1 : DataW H) (es2 sp2 : List (DataW H)), es[i']? = some (DataW.agg [d1, .slice es2 sp2]) → es2.length ≤ 140737488351232 := by
  have up : ∀ z, z ∈ DataW.weights Try.prog 22 (.slice es sp' : DataW H) → z ≤ reachBytes := fun z hz => by
    have m2 : z ∈ DataW.weights Try.prog 52 (.agg [d0, .slice es sp'] : DataW H) := by
      rw [DataW.weights, Try.underlying52]
      exact wts_each [4, 22] _ 1 22 (.slice es sp') rfl rfl _ hz
    have m3 := wts_all 52 elems i _ he _ m2
    have m4 : z ∈ DataW.weights Try.prog 49 (.slice elems sp : DataW H) := by
      rw [DataW.weights, Try.uTurns]
      simp only [List.mem_cons, List.mem_append]
      exact .inr (.inl m3)
    exact of_decide_eq_true (List.all_eq_true.1 h _ (wts_each ts ds j _ _ ht hd _ m4))
  constructor
  · have := up ((es.length + sp'.length) * Try.prog.bytesOf 64) (by rw [DataW.weights, Try.uAttrs]; simp)
    rw [show Try.prog.bytesOf 64 = 32 by kernel_rfl] at this
    simp only [reachBytes] at this
    omega
  · intro i' d1 es2 sp2 he2
    have m1 : (es2.length + sp2.length) * Try.prog.bytesOf 5 ∈ DataW.weights Try.prog 42 (.slice es2 sp2 : DataW H) := by
      rw [DataW.weights, Try.uBytes]
      simp
    have m2 : (es2.length + sp2.length) * Try.prog.bytesOf 5 ∈ DataW.weights Try.prog 64 (.agg [d1, .slice es2 sp2] : DataW H) := by
      rw [DataW.weights, Try.underlying64]
      exact wts_each [3, 42] _ 1 42 (.slice es2 sp2) rfl rfl _ m1
    have m3 := wts_all 64 es i' _ he2 _ m2
    have := up _ (by rw [DataW.weights, Try.uAttrs]; simp only [List.mem_cons, List.mem_append]; exact .inr (.inl m3))
    rw [show Try.prog.bytesOf 5 = 1 by kernel_rfl, Nat.mul_one] at this
    simp only [reachBytes] at this
    omega
end Go.Proofs.Ytepaapiflkkghaa

/- RuleSame, out of what package rule must keep. -/
namespace Go.Proofs.Ytepaapiflkkghaa
open Go.RowKit
attribute [local go_sem] World.cell?_alloc_some cell_alloc2 cell_alloc3 cell_alloc4 frozen?_alloc_cells frozen_out
set_option linter.unusedSimpArgs false
/-- The template of sealringkeep.rules. -/
def rlT : List Ar := [⟨1, [1]⟩, ⟨4, []⟩]
set_option maxRecDepth 10000 in
theorem rlT_mad : madE rlT false = 0 := by decide
set_option maxRecDepth 10000 in
theorem rlT_len : (madL rlT false).length = 7 := by decide
set_option maxRecDepth 20000 in
set_option maxHeartbeats 2000000 in
theorem rules_alive (MC : RlMakeC) (w : World) : Calls Try.prog 26 #[] w fun e w' => e = .returned (.bool true) ∧ Below w.heap.size w w' := by
  have s1 := by_one w 1
  have b1 : Hid (Below w.heap.size w (w.alloc (.cells #[.int .u8 1] 5))) := (Below.refl _ _).alloc (Nat.le_refl _) _
  have k2 : Hid (Kn ((w.alloc (.cells #[.int .u8 1] 5)).alloc (.cells #[.int .i64 1, .slice (some ⟨w.heap.size, 0, none⟩) 1 1, .int .i64 4, .slice none 0 0] 64)) [((w.alloc (.cells #[.int .u8 1] 5)).heap.size, [.int .i64 1, .slice (some ⟨w.heap.size, 0, none⟩) 1 1, .int .i64 4, .slice none 0 0])]) := (Kn.nil _).al [.int .i64 1, .slice (some ⟨w.heap.size, 0, none⟩) 1 1, .int .i64 4, .slice none 0 0] 64 rfl
  have A : Ats ((w.alloc (.cells #[.int .u8 1] 5)).alloc (.cells #[.int .i64 1, .slice (some ⟨w.heap.size, 0, none⟩) 1 1, .int .i64 4, .slice none 0 0] 64)) (.slice (some ⟨(w.alloc (.cells #[.int .u8 1] 5)).heap.size, 0, none⟩) 2 2) rlT :=
    ⟨_, 2, rfl, Nat.le_refl _, (fun h => by cases h), fun _ => ⟨_, 0, rfl, fun j y hy => by
      have hj := (List.getElem?_eq_some_iff.1 hy).1
      match j, hj, hy with
      | 0, _, hy =>
        obtain rfl := Option.some.inj hy
        exact ⟨Kn.get k2.out 0 0 rfl rfl, _, Kn.get k2.out 0 1 rfl rfl, s1.up ((Below.refl _ _).alloc (Nat.le_refl _) _) (Nat.le_refl _)⟩
      | 1, _, hy =>
        obtain rfl := Option.some.inj hy
        exact ⟨Kn.get k2.out 0 2 rfl rfl, _, Kn.get k2.out 0 3 rfl rfl, By.nil _⟩⟩⟩
  have b2 : Hid (Below w.heap.size w ((w.alloc (.cells #[.int .u8 1] 5)).alloc (.cells #[.int .i64 1, .slice (some ⟨w.heap.size, 0, none⟩) 1 1, .int .i64 4, .slice none 0 0] 64))) := b1.out.alloc b1.out.size _
  have lo : lowA rlT := fun x hx => by
    simp only [rlT, List.mem_cons, List.not_mem_nil, or_false] at hx
    rcases hx with rfl | rfl
    · exact ⟨⟨by simp only; omega, by simp only; omega⟩, fun y hy => by obtain rfl := List.mem_singleton.1 hy; decide⟩
    · exact ⟨⟨by simp only; omega, by simp only; omega⟩, fun y hy => absurd hy List.not_mem_nil⟩
  have zd : zedA rlT := fun x hx => by
    simp only [rlT, List.mem_cons, List.not_mem_nil, or_false] at hx
    rcases hx with rfl | rfl <;> simp
  have M := MC _ rlT false _ lo (by simp [rlT]) zd A
  rw [rlT_mad, show (w.alloc (.cells #[.int .u8 1] 5)).heap.size = w.heap.size + 1 from by simp] at M
  have hl := rlT_len
  generalize madL rlT false = L at *
  have HL : Hid (L.length = 7) := hl
  clear s1 b1 k2 A lo zd MC hl
  go_enter Try.func26, Try.ntmps26
  go_wp2_with (first | refine wp_bs1 rfl _ rfl 1 rfl ?_)
  refine M.mono ?_
  rintro e w3 ⟨⟨r, rfl, hr⟩, hb⟩
  have b3 : Hid (Below w.heap.size w w3) := b2.out.trans (hb.mono b2.out.size)
  obtain ⟨ra, rc, rfl⟩ := ats_parts hr
  rw [HL.out]
  clear hb hr M b2
  go_wp2_with fail
  go_ret
  exact ⟨rfl, b3.out⟩
theorem madL_low {t : List Ar} {b : Bool} (h : lowA t) : lowA (madL t b) := fun x hx => by
  have lo : ∀ x ∈ t, lowB x.v := fun x hx => (h x hx).2
  obtain ⟨k, hk, h1, h2⟩ := atsF_mem.1 hx
  refine ⟨by rw [h1]; omega, madF_low lo k x.v h2⟩
theorem val_zed {l : List Ar} (h : valA l = true) : zedA l := fun x hx => by
  have := ((fltA_zero l).1 (val_parts h).1).2.1 x hx
  have := fit_len this.2.2
  omega
end Go.Proofs.Ytepaapiflkkghaa

/- One turning of an object, out of what package rule must keep. -/
namespace Go.Proofs.Ytepaapiflkkghaa
open Go.RowKit
attribute [local go_sem] World.cell?_alloc_some cell_alloc2 cell_alloc3 cell_alloc4 frozen?_alloc_cells frozen_out
set_option linter.unusedSimpArgs false
/-- An object turned: as it is, where that is refused. -/
def trnT (l : List Ar) (x : Tu) : List Ar := if trnE l x.l x.c = 0 then ovrA l x.l else l
theorem trnT_low {l : List Ar} {x : Tu} (lo : lowA l) (lt : x.ok) : lowA (trnT l x) := by
  unfold trnT
  split
  · exact ovrA_lowA lo lt.1
  · exact lo
set_option maxRecDepth 20000 in
set_option maxHeartbeats 4000000 in
theorem turnedK_walk (v : Value) (a : Option Addr) (n d : Nat) (l t A1 A2 : List Ar) (E1 E2 : Nat) (c : Bool) (w : World) (HV : Hid (Ats w v l)) (HU : Hid (Ats w (.slice a n d) t))
    (M1 : ∀ W, Ats W v l → Ats W (.slice a n d) t → Calls Try.prog 20 #[v, .slice a n d] W fun e w' => (∃ r, e = .returned (.tuple #[r, .int .i64 (E1 : Int)]) ∧ Ats w' r A1) ∧ Below W.heap.size W w')
    (M2 : ∀ W, Ats W v l → Ats W (.slice a n d) t → Calls Try.prog 22 #[v, .slice a n d] W fun e w' => (∃ r, e = .returned (.tuple #[r, .int .i64 (E2 : Int)]) ∧ Ats w' r A2) ∧ Below W.heap.size W w') :
    Calls Try.prog 27 #[v, .agg #[.bool c, .slice a n d]] w fun e w' => (∃ r, e = .returned r ∧ Ats w' r (if (if c then E2 else E1) = 0 then (if c then A2 else A1) else l)) ∧ Below w.heap.size w w' := by
  have k1 : Hid (Kn (w.alloc (.cells #[.bool c, .slice a n d] 52)) [(w.heap.size, [.bool c, .slice a n d])]) := (Kn.nil w).al [.bool c, .slice a n d] 52 rfl
  have b1 : Hid (Below w.heap.size w (w.alloc (.cells #[.bool c, .slice a n d] 52))) := (Below.refl _ _).alloc (Nat.le_refl _) _
  have G1 := M1 _ (HV.out.up b1.out (Nat.le_refl _)) (HU.out.up b1.out (Nat.le_refl _))
  have f0 : (w.alloc (.cells #[.bool c, .slice a n d] 52)).cell? ⟨w.heap.size, 0, none⟩ = some (.bool c) := Kn.get k1.out 0 0 rfl rfl
  have f1 : (w.alloc (.cells #[.bool c, .slice a n d] 52)).cell? ⟨w.heap.size, 1, none⟩ = some (.slice a n d) := Kn.get k1.out 0 1 rfl rfl
  clear M1
  go_enter Try.func27, Try.ntmps27
  go_wp2_with fail
  refine G1.mono ?_
  rintro e w2 ⟨⟨r, rfl, hr⟩, hb⟩
  have b2 : Hid (Below w.heap.size w w2) := b1.out.trans (hb.mono b1.out.size)
  have V2 : Hid (Ats w2 v l) := HV.out.up b2.out (Nat.le_refl _)
  have R2 : Hid (Ats w2 r A1) := hr
  have g0 : w2.cell? ⟨w.heap.size, 0, none⟩ = some (.bool c) := (hb.cell (p := ⟨w.heap.size, 0, none⟩) (lt_of_cellB f0)).trans f0
  have g1 : w2.cell? ⟨w.heap.size, 1, none⟩ = some (.slice a n d) := (hb.cell (p := ⟨w.heap.size, 1, none⟩) (lt_of_cellB f1)).trans f1
  have G2 := M2 w2 V2.out (HU.out.up b2.out (Nat.le_refl _))
  clear hb hr b1 f0 f1 G1 M2 k1 HV HU
  cases c with
  | false =>
    clear G2
    by_cases hE : E1 = 0
    · subst hE
      go_wp2_with fail
      go_ret
      exact ⟨⟨r, rfl, R2.out⟩, b2.out⟩
    · have e1 : ((E1 : Int) != 0) = true := bne_iff_ne.2 (by omega)
      go_wp2_with fail
      go_ret
      exact ⟨⟨v, rfl, V2.out⟩, b2.out⟩
  | true =>
    go_wp2_with fail
    refine G2.mono ?_
    rintro e w3 ⟨⟨q, rfl, hq⟩, hb⟩
    have b3 : Hid (Below w.heap.size w w3) := b2.out.trans (hb.mono b2.out.size)
    have V3 : Hid (Ats w3 v l) := V2.out.up hb (Nat.le_refl _)
    have R3 : Hid (Ats w3 q A2) := hq
    clear hb hq b2 V2 R2 g0 g1 G2
    by_cases hE : E2 = 0
    · subst hE
      go_wp2_with fail
      go_ret
      exact ⟨⟨q, rfl, R3.out⟩, b3.out⟩
    · have e1 : ((E2 : Int) != 0) = true := bne_iff_ne.2 (by omega)
      go_wp2_with fail
      go_ret
      exact ⟨⟨v, rfl, V3.out⟩, b3.out⟩
/-- One turning. -/
theorem turnedK_fun (CC : RlChangeC) (PC : RlCopyC) (l : List Ar) (ll : lowA l) (hl : l.length ≤ 4611686018427387904) (zl : zedA l) (x : Tu) (hx : x.ok) (v u : Value) (w : World) (h1 : Ats w v l) (h2 : Ats w u x.l) :
    Calls Try.prog 27 #[v, .agg #[.bool x.c, u]] w fun e w' => (∃ r, e = .returned r ∧ Ats w' r (trnT l x)) ∧ Below w.heap.size w w' := by
  obtain ⟨a, d, rfl⟩ := ats_parts h2
  have e : trnT l x = if (if x.c then trnE l x.l true else trnE l x.l false) = 0 then (if x.c then trnL l x.l true else trnL l x.l false) else l := by
    unfold trnT
    cases hc : x.c with
    | false =>
      by_cases h : trnE l x.l false = 0 <;> simp [trnL, h]
    | true =>
      by_cases h : trnE l x.l true = 0 <;> simp [trnL, h]
  rw [e]
  have := hx.2.1
  exact turnedK_walk v a _ d l x.l _ _ _ _ x.c w h1 h2 (fun W p q => CC v _ l x.l W ll hx.1 hl zl (by omega) hx.2.2 p q) (fun W p q => PC v _ l x.l W ll hx.1 hl zl (by omega) hx.2.2 p q)
end Go.Proofs.Ytepaapiflkkghaa

/- What a walk over turnings needs: an element read whole, objects turned one behind the other. -/
namespace Go.Proofs.Ytepaapiflkkghaa
open Go.RowKit
set_option linter.unusedSimpArgs false
def tuZ : List Value := [.bool false, .slice none 0 0]
theorem u_turn : Try.prog.underlying 52 = some (.struct (match Try.prog.underlying 52 with | some (.struct fs) => fs | _ => #[])) := by kernel_rfl
theorem info_turn (b : Bool) (u : Value) : (Try.prog.info? 52).map (·.size) = some ([Value.bool b, u] : List Value).length := by kernel_rfl
theorem zero_turn (w : World) : (zeroValue 52).run Try.prog w = .ok (.agg tuZ.toArray) w := I.zero_of (by kernel_rfl) w
/-- A turning in memory. -/
def TuE (w : World) (b o : Nat) (x : Tu) (a : Option Addr) (c : Nat) : Prop := w.cell? ⟨b, o, none⟩ = some (.bool x.c) ∧ w.cell? ⟨b, o + 1, none⟩ = some (.slice a x.l.length c) ∧ Ats w (.slice a x.l.length c) x.l
theorem TuE.up {w w1 : World} {b o : Nat} {x : Tu} {a : Option Addr} {c : Nat} (h : TuE w b o x a c) (hb : Below w.heap.size w w1) : TuE w1 b o x a c :=
  ⟨(hb.cell (p := ⟨b, _, none⟩) (lt_of_cellB h.1)).trans h.1, (hb.cell (p := ⟨b, _, none⟩) (lt_of_cellB h.2.1)).trans h.2.1, h.2.2.up hb (Nat.le_refl _)⟩
theorem TuE.rng {w : World} {b o : Nat} {x : Tu} {a : Option Addr} {c : Nat} (h : TuE w b o x a c) : w.rangeAt b o [.bool x.c, .slice a x.l.length c] := fun j v hv => by
  match j, hv with
  | 0, hv =>
    obtain rfl := Option.some.inj hv
    exact h.1
  | 1, hv =>
    obtain rfl := Option.some.inj hv
    exact h.2.1
/-- An object turned by the first of the turnings. -/
def trnS (l : List Tu) (O : List Ar) (j : Nat) : List Ar := (l.take j).foldl trnT O
theorem trnS_zero (l : List Tu) (O : List Ar) : trnS l O 0 = O := by rw [trnS, List.take_zero, List.foldl_nil]
theorem trnS_succ {l : List Tu} {O : List Ar} {j : Nat} {x : Tu} (hx : l[j]? = some x) : trnS l O (j + 1) = trnT (trnS l O j) x := by
  unfold trnS
  rw [List.take_add_one, hx, Option.toList_some, List.foldl_append, List.foldl_cons, List.foldl_nil]
theorem trnT_val {l : List Ar} (x : Tu) (h : valA l = true) : valA (trnT l x) = true := by
  unfold trnT
  by_cases h0 : trnE l x.l x.c = 0
  · rw [if_pos h0]
    exact trn_val h0
  · rw [if_neg h0]
    exact h
theorem trnS_val {l : List Tu} {O : List Ar} (h : valA O = true) : ∀ j, valA (trnS l O j) = true
  | 0 => by rw [trnS_zero]; exact h
  | j + 1 => by
    cases hx : l[j]? with
    | none =>
      have : trnS l O (j + 1) = trnS l O j := by
        unfold trnS
        rw [List.take_add_one, hx, Option.toList_none, List.append_nil]
      rw [this]
      exact trnS_val h j
    | some x =>
      rw [trnS_succ hx]
      exact trnT_val x (trnS_val h j)
theorem trnS_low {l : List Tu} {O : List Ar} (ll : ∀ x ∈ l, x.ok) (h : lowA O) : ∀ j, lowA (trnS l O j)
  | 0 => by rw [trnS_zero]; exact h
  | j + 1 => by
    cases hx : l[j]? with
    | none =>
      have : trnS l O (j + 1) = trnS l O j := by
        unfold trnS
        rw [List.take_add_one, hx, Option.toList_none, List.append_nil]
      rw [this]
      exact trnS_low ll h j
    | some x =>
      rw [trnS_succ hx]
      exact trnT_low (trnS_low ll h j) (ll x (List.mem_of_getElem? hx))
theorem val_len {l : List Ar} (h : valA l = true) : l.length ≤ 18 := by
  rw [(val_parts h).2.1]
  exact risA_len _
theorem mad_nil {t : List Ar} {b : Bool} (h : madE t b ≠ 0) : madL t b = [] := by
  unfold madL madF
  rw [if_neg h]
  rfl
/-- What an element of an object is, by its card. -/
theorem crd_get (l : List Ar) {k : Nat} (h : 1 ≤ k ∧ k ≤ 18) : crdF l k = getA l (k : Int) := by
  unfold crdF
  rw [if_pos h]
end Go.Proofs.Ytepaapiflkkghaa

/- What a turning keeps. -/
namespace Go.Proofs.Ytepaapiflkkghaa
set_option linter.unusedSimpArgs false
theorem flg_fit {k : Int} {v : List Nat} (hk : 5 ≤ k) (h : fitA k v = true) : v = [0] ∨ v = [1] := by
  unfold fitA at h
  rw [if_neg (by omega), if_neg (by omega)] at h
  split at h
  · rename_i hl
    rw [if_neg (by omega)] at h
    have h1 := of_decide_eq_true h
    match v, hl with
    | [y], _ =>
      simp only [List.getD_cons_zero] at h1
      have : y = 0 ∨ y = 1 := by omega
      rcases this with rfl | rfl
      · exact .inl rfl
      · exact .inr rfl
  · cases h
/-- What lies behind a turning, of one kind. -/
theorem trn_get {l t : List Ar} {c : Bool} (h : trnE l t c = 0) {k : Nat} (hk : 1 ≤ k ∧ k ≤ 18) : getA (ovrA l t) (k : Int) = getA l (k : Int) ∨ ∃ v, getA (ovrA l t) (k : Int) = some v ∧ fitA (k : Int) v = true ∧ nayB (crdF l) c ⟨(k : Int), v⟩ = false := by
  rw [ovrA_get l t (by omega) (by omega)]
  cases hg : getA t (k : Int) with
  | none => exact .inl (Option.none_or)
  | some v =>
    obtain ⟨y, hy, h1, h2⟩ := getA_mem hg
    have e : y = ⟨(k : Int), v⟩ := by rw [← h1, ← h2]
    have hz := trn_zero h
    have g1 := ((fltA_zero t).1 hz.2.1).2.1 y hy
    have g2 := (badT_zero hz.2.2.2.1 y hy).2
    rw [e] at g1 g2
    exact .inr ⟨v, Option.some_or, g1.2.2, g2⟩
def isB (l : List Ar) (k : Int) : Bool := decide ((getA l k).getD [] = [1])
theorem isB_one {l : List Ar} {k : Nat} (h : 1 ≤ k ∧ k ≤ 18) : oneF (crdF l) k = isB l (k : Int) := by
  unfold oneF isB
  rw [crd_get l h]
theorem isB_of {l m : List Ar} {k : Int} (h : getA m k = getA l k) : isB m k = isB l k := by
  unfold isB
  rw [h]
theorem keep8 (l : List Ar) (x : Tu) (h : isB l 8 = true) : isB (trnT l x) 8 = true := by
  unfold trnT
  split
  · rename_i h0
    rcases trn_get h0 (k := 8) (by decide) with e | ⟨v, e, hf, hn⟩
    · exact (isB_of e).trans h
    · unfold isB
      rw [show ((8 : Nat) : Int) = 8 from rfl] at e hf hn
      rw [e]
      rcases flg_fit (by decide) hf with rfl | rfl
      · have h2 : oneF (crdF l) 8 = true := (isB_one (by decide)).trans h
        unfold nayB at hn
        rw [h2] at hn
        simp at hn
      · rfl
  · exact h
theorem keep6 (l : List Ar) (x : Tu) (h : isB l 6 = true) : isB (trnT l x) 6 = true := by
  unfold trnT
  split
  · rename_i h0
    rcases trn_get h0 (k := 6) (by decide) with e | ⟨v, e, hf, hn⟩
    · exact (isB_of e).trans h
    · unfold isB
      rw [show ((6 : Nat) : Int) = 6 from rfl] at e hf hn
      rw [e]
      rcases flg_fit (by decide) hf with rfl | rfl
      · have h2 : oneF (crdF l) 6 = true := (isB_one (by decide)).trans h
        unfold nayB at hn
        rw [h2] at hn
        simp at hn
      · rfl
  · exact h
theorem keep9 (l : List Ar) (x : Tu) (h : isB l 9 = false) : isB (trnT l x) 9 = false := by
  unfold trnT
  split
  · rename_i h0
    rcases trn_get h0 (k := 9) (by decide) with e | ⟨v, e, hf, hn⟩
    · exact (isB_of e).trans h
    · unfold isB
      rw [show ((9 : Nat) : Int) = 9 from rfl] at e hf hn
      rw [e]
      rcases flg_fit (by decide) hf with rfl | rfl
      · rfl
      · have h2 : oneF (crdF l) 9 = false := (isB_one (by decide)).trans h
        unfold nayB at hn
        rw [h2] at hn
        simp at hn
  · exact h
theorem keepH (l : List Ar) (x : Tu) (h : hidA l = true) : hidA (trnT l x) = true := by
  unfold hidA at h ⊢
  rw [Bool.or_eq_true] at h
  rcases h with h | h
  · have := keep8 l x h
    unfold isB at this
    rw [this]
    rfl
  · rw [Bool.and_eq_true, Bool.not_eq_true'] at h
    have h9 := keep9 l x h.2
    unfold isB at h9
    rw [h9, Bool.not_false, Bool.and_true, Bool.or_eq_true]
    refine .inr ?_
    unfold trnT
    split
    · rename_i h0
      rcases trn_get h0 (k := 9) (by decide) with e | ⟨v, e, _, _⟩
      · rw [show ((9 : Nat) : Int) = 9 from rfl] at e
        rw [e]
        exact h.1
      · rw [show ((9 : Nat) : Int) = 9 from rfl] at e
        rw [e]
        rfl
    · exact h.1
/-- What no turning touches. -/
theorem keepK (l : List Ar) (x : Tu) {k : Nat} (hk : k = 1 ∨ k = 4 ∨ k = 10 ∨ k = 11 ∨ k = 12) : getA (trnT l x) (k : Int) = getA l (k : Int) := by
  unfold trnT
  split
  · rename_i h0
    rcases trn_get h0 (k := k) (by omega) with e | ⟨v, e, _, hn⟩
    · exact e
    · unfold nayB at hn
      have : decide ((k : Int) = 1 ∨ (k : Int) = 4 ∨ (k : Int) = 10 ∨ (k : Int) = 11 ∨ (k : Int) = 12) = true := decide_eq_true (by omega)
      simp only [this, Bool.true_or] at hn
      cases hn
  · rfl
end Go.Proofs.Ytepaapiflkkghaa
