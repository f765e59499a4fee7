/- Texts that were joined: RuTu, RuTw. -/
import Derived.Test.YtepaapiflkkghabQRuU
import Derived.Test.YtepaapiflkkghabQRlK
import Derived.Test.YtepaapiflkkghabQRuSa
import Derived.Test.YtepaapiflkkghabQYcToAtS
/- One turning of an object, out of what package rule must keep. -/
namespace Go.Proofs.Ytepaapiflkkghab
open Go.RowKit
attribute [local go_sem] World.cell?_alloc_some cell_alloc2 cell_alloc3 cell_alloc4 frozen?_alloc_cells frozen_out
set_option linter.unusedSimpArgs false
/-- An object turned: as it is, where that is refused. -/
def trnT (l : List Ar) (x : Tu) : List Ar := if trnE l x.l x.c = 0 then ovrA l x.l else l
theorem trnT_low {l : List Ar} {x : Tu} (lo : lowA l) (lt : x.ok) : lowA (trnT l x) := by
  unfold trnT
  split
  · exact ovrA_lowA lo lt.1
  · exact lo
set_option maxRecDepth 20000 in
set_option maxHeartbeats 4000000 in
theorem turnedK_walk (v : Value) (a : Option Addr) (n d : Nat) (l t A1 A2 : List Ar) (E1 E2 : Nat) (c : Bool) (w : World) (HV : Hid (Ats w v l)) (HU : Hid (Ats w (.slice a n d) t))
    (M1 : ∀ W, Ats W v l → Ats W (.slice a n d) t → Calls Try.prog 10 #[v, .slice a n d] W fun e w' => (∃ r, e = .returned (.tuple #[r, .int .i64 (E1 : Int)]) ∧ Ats w' r A1) ∧ Below W.heap.size W w')
    (M2 : ∀ W, Ats W v l → Ats W (.slice a n d) t → Calls Try.prog 21 #[v, .slice a n d] W fun e w' => (∃ r, e = .returned (.tuple #[r, .int .i64 (E2 : Int)]) ∧ Ats w' r A2) ∧ Below W.heap.size W w') :
    Calls Try.prog 6 #[v, .agg #[.bool c, .slice a n d]] w fun e w' => (∃ r, e = .returned r ∧ Ats w' r (if (if c then E2 else E1) = 0 then (if c then A2 else A1) else l)) ∧ Below w.heap.size w w' := by
  have k1 : Hid (Kn (w.alloc (.cells #[.bool c, .slice a n d] 28)) [(w.heap.size, [.bool c, .slice a n d])]) := (Kn.nil w).al [.bool c, .slice a n d] 28 rfl
  have b1 : Hid (Below w.heap.size w (w.alloc (.cells #[.bool c, .slice a n d] 28))) := (Below.refl _ _).alloc (Nat.le_refl _) _
  have G1 := M1 _ (HV.out.up b1.out (Nat.le_refl _)) (HU.out.up b1.out (Nat.le_refl _))
  have f0 : (w.alloc (.cells #[.bool c, .slice a n d] 28)).cell? ⟨w.heap.size, 0, none⟩ = some (.bool c) := Kn.get k1.out 0 0 rfl rfl
  have f1 : (w.alloc (.cells #[.bool c, .slice a n d] 28)).cell? ⟨w.heap.size, 1, none⟩ = some (.slice a n d) := Kn.get k1.out 0 1 rfl rfl
  clear M1
  go_enter Try.func6, Try.ntmps6
  go_wp2_with fail
  refine G1.mono ?_
  rintro e w2 ⟨⟨r, rfl, hr⟩, hb⟩
  have b2 : Hid (Below w.heap.size w w2) := b1.out.trans (hb.mono b1.out.size)
  have V2 : Hid (Ats w2 v l) := HV.out.up b2.out (Nat.le_refl _)
  have R2 : Hid (Ats w2 r A1) := hr
  have g0 : w2.cell? ⟨w.heap.size, 0, none⟩ = some (.bool c) := (hb.cell (p := ⟨w.heap.size, 0, none⟩) (lt_of_cellB f0)).trans f0
  have g1 : w2.cell? ⟨w.heap.size, 1, none⟩ = some (.slice a n d) := (hb.cell (p := ⟨w.heap.size, 1, none⟩) (lt_of_cellB f1)).trans f1
  have G2 := M2 w2 V2.out (HU.out.up b2.out (Nat.le_refl _))
  clear hb hr b1 f0 f1 G1 M2 k1 HV HU
  cases c with
  | false =>
    clear G2
    by_cases hE : E1 = 0
    · subst hE
      go_wp2_with fail
      go_ret
      exact ⟨⟨r, rfl, R2.out⟩, b2.out⟩
    · have e1 : ((E1 : Int) != 0) = true := bne_iff_ne.2 (by omega)
      go_wp2_with fail
      go_ret
      exact ⟨⟨v, rfl, V2.out⟩, b2.out⟩
  | true =>
    go_wp2_with fail
    refine G2.mono ?_
    rintro e w3 ⟨⟨q, rfl, hq⟩, hb⟩
    have b3 : Hid (Below w.heap.size w w3) := b2.out.trans (hb.mono b2.out.size)
    have V3 : Hid (Ats w3 v l) := V2.out.up hb (Nat.le_refl _)
    have R3 : Hid (Ats w3 q A2) := hq
    clear hb hq b2 V2 R2 g0 g1 G2
    by_cases hE : E2 = 0
    · subst hE
      go_wp2_with fail
      go_ret
      exact ⟨⟨q, rfl, R3.out⟩, b3.out⟩
    · have e1 : ((E2 : Int) != 0) = true := bne_iff_ne.2 (by omega)
      go_wp2_with fail
      go_ret
      exact ⟨⟨v, rfl, V3.out⟩, b3.out⟩
/-- One turning. -/
theorem turnedK_fun (CC : RlChangeC) (PC : RlCopyC) (l : List Ar) (ll : lowA l) (hl : l.length ≤ 4611686018427387904) (zl : zedA l) (x : Tu) (hx : x.ok) (v u : Value) (w : World) (h1 : Ats w v l) (h2 : Ats w u x.l) :
    Calls Try.prog 6 #[v, .agg #[.bool x.c, u]] w fun e w' => (∃ r, e = .returned r ∧ Ats w' r (trnT l x)) ∧ Below w.heap.size w w' := by
  obtain ⟨a, d, rfl⟩ := ats_parts h2
  have e : trnT l x = if (if x.c then trnE l x.l true else trnE l x.l false) = 0 then (if x.c then trnL l x.l true else trnL l x.l false) else l := by
    unfold trnT
    cases hc : x.c with
    | false =>
      by_cases h : trnE l x.l false = 0 <;> simp [trnL, h]
    | true =>
      by_cases h : trnE l x.l true = 0 <;> simp [trnL, h]
  rw [e]
  have := hx.2.1
  exact turnedK_walk v a _ d l x.l _ _ _ _ x.c w h1 h2 (fun W p q => CC v _ l x.l W ll hx.1 hl zl (by omega) hx.2.2 p q) (fun W p q => PC v _ l x.l W ll hx.1 hl zl (by omega) hx.2.2 p q)
end Go.Proofs.Ytepaapiflkkghab

/- What a walk over turnings needs: an element read whole, objects turned one behind the other. -/
namespace Go.Proofs.Ytepaapiflkkghab
open Go.RowKit
set_option linter.unusedSimpArgs false
def tuZ : List Value := [.bool false, .slice none 0 0]
theorem u_turn : Try.prog.underlying 28 = some (.struct (match Try.prog.underlying 28 with | some (.struct fs) => fs | _ => #[])) := by kernel_rfl
theorem info_turn (b : Bool) (u : Value) : (Try.prog.info? 28).map (·.size) = some ([Value.bool b, u] : List Value).length := by kernel_rfl
theorem zero_turn (w : World) : (zeroValue 28).run Try.prog w = .ok (.agg tuZ.toArray) w := I.zero_of (by kernel_rfl) w
/-- A turning in memory. -/
def TuE (w : World) (b o : Nat) (x : Tu) (a : Option Addr) (c : Nat) : Prop := w.cell? ⟨b, o, none⟩ = some (.bool x.c) ∧ w.cell? ⟨b, o + 1, none⟩ = some (.slice a x.l.length c) ∧ Ats w (.slice a x.l.length c) x.l
theorem TuE.up {w w1 : World} {b o : Nat} {x : Tu} {a : Option Addr} {c : Nat} (h : TuE w b o x a c) (hb : Below w.heap.size w w1) : TuE w1 b o x a c :=
  ⟨(hb.cell (p := ⟨b, _, none⟩) (lt_of_cellB h.1)).trans h.1, (hb.cell (p := ⟨b, _, none⟩) (lt_of_cellB h.2.1)).trans h.2.1, h.2.2.up hb (Nat.le_refl _)⟩
theorem TuE.rng {w : World} {b o : Nat} {x : Tu} {a : Option Addr} {c : Nat} (h : TuE w b o x a c) : w.rangeAt b o [.bool x.c, .slice a x.l.length c] := fun j v hv => by
  match j, hv with
  | 0, hv =>
    obtain rfl := Option.some.inj hv
    exact h.1
  | 1, hv =>
    obtain rfl := Option.some.inj hv
    exact h.2.1
/-- An object turned by the first of the turnings. -/
def trnS (l : List Tu) (O : List Ar) (j : Nat) : List Ar := (l.take j).foldl trnT O
theorem trnS_zero (l : List Tu) (O : List Ar) : trnS l O 0 = O := by rw [trnS, List.take_zero, List.foldl_nil]
theorem trnS_succ {l : List Tu} {O : List Ar} {j : Nat} {x : Tu} (hx : l[j]? = some x) : trnS l O (j + 1) = trnT (trnS l O j) x := by
  unfold trnS
  rw [List.take_add_one, hx, Option.toList_some, List.foldl_append, List.foldl_cons, List.foldl_nil]
theorem trnT_val {l : List Ar} (x : Tu) (h : valA l = true) : valA (trnT l x) = true := by
  unfold trnT
  by_cases h0 : trnE l x.l x.c = 0
  · rw [if_pos h0]
    exact trn_val h0
  · rw [if_neg h0]
    exact h
theorem trnS_val {l : List Tu} {O : List Ar} (h : valA O = true) : ∀ j, valA (trnS l O j) = true
  | 0 => by rw [trnS_zero]; exact h
  | j + 1 => by
    cases hx : l[j]? with
    | none =>
      have : trnS l O (j + 1) = trnS l O j := by
        unfold trnS
        rw [List.take_add_one, hx, Option.toList_none, List.append_nil]
      rw [this]
      exact trnS_val h j
    | some x =>
      rw [trnS_succ hx]
      exact trnT_val x (trnS_val h j)
theorem trnS_low {l : List Tu} {O : List Ar} (ll : ∀ x ∈ l, x.ok) (h : lowA O) : ∀ j, lowA (trnS l O j)
  | 0 => by rw [trnS_zero]; exact h
  | j + 1 => by
    cases hx : l[j]? with
    | none =>
      have : trnS l O (j + 1) = trnS l O j := by
        unfold trnS
        rw [List.take_add_one, hx, Option.toList_none, List.append_nil]
      rw [this]
      exact trnS_low ll h j
    | some x =>
      rw [trnS_succ hx]
      exact trnT_low (trnS_low ll h j) (ll x (List.mem_of_getElem? hx))
theorem val_len {l : List Ar} (h : valA l = true) : l.length ≤ 18 := by
  rw [(val_parts h).2.1]
  exact risA_len _
theorem mad_nil {t : List Ar} {b : Bool} (h : madE t b ≠ 0) : madL t b = [] := by
  unfold madL madF
  rw [if_neg h]
  rfl
/-- What an element of an object is, by its card. -/
theorem crd_get (l : List Ar) {k : Nat} (h : 1 ≤ k ∧ k ≤ 18) : crdF l k = getA l (k : Int) := by
  unfold crdF
  rw [if_pos h]
theorem may_one {l : List Ar} {k : Nat} (h : 13 ≤ k ∧ k ≤ 18) : (mayE l (k : Int) = 0) ↔ oneF (crdF l) k = true := by
  unfold mayE oneF
  rw [crd_get l ⟨by omega, h.2⟩, decide_eq_true_iff]
  cases hg : getA l (k : Int) with
  | none =>
    rw [if_pos rfl]
    exact ⟨fun h => by omega, fun h => by cases h⟩
  | some x =>
    rw [if_neg (fun h => by cases h), if_neg (by omega), Option.getD_some]
    by_cases hx : x = [1]
    · rw [if_pos hx]
      exact ⟨fun _ => hx, fun _ => rfl⟩
    · rw [if_neg hx]
      exact ⟨fun h => by omega, fun h => absurd h hx⟩
end Go.Proofs.Ytepaapiflkkghab
