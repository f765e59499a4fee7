/- PackedAttrs, as the document has it; CardOf of whatever list. -/
import Derived.Test.YtohliojdmmbcdaaQAtU
import Derived.Test.YtohliojdmmbcdaaQUpSToAtA
import Derived.Test.YtohliojdmmbcdaaQAtK
import Derived.Deep.CutRange
namespace Go.Proofs.Ytohliojdmmbcdaa
open Go.RowKit
attribute [local go_sem] World.cell?_alloc_some cell_alloc2 cell_alloc3 cell_alloc4 frozen?_alloc_cells frozen_out
set_option linter.unusedSimpArgs false
set_option maxHeartbeats 2000000 in
theorem cardOf_nil (a : Option Addr) (c : Nat) (w : World) : Calls Try.prog 11 #[.slice a 0 c] w fun e w' => e = .returned (.agg (crdC (crdF [])).toArray) ∧ Below w.heap.size w w' := by
  rw [crdF_nil]
  have sk : Hid (Kn ((w.alloc (.cells (crdC fun _ => none).toArray 30)).alloc (.cells (crdC fun _ => none).toArray 30)) [(w.heap.size + 1, crdC fun _ => none), (w.heap.size, crdC fun _ => none)]) := ((Kn.nil w).al (crdC fun _ => none) 30 rfl).al (crdC fun _ => none) 30 (by simp)
  have bk : Hid (Below w.heap.size w ((w.alloc (.cells (crdC fun _ => none).toArray 30)).alloc (.cells (crdC fun _ => none).toArray 30))) := ((Below.refl _ _).alloc (Nat.le_refl _) _).alloc (by simp) _
  go_enter Try.func11, Try.ntmps11
  go_wp2_with (simp only [zero_card])
  go_loopw [8] (fun i wr => i = .int .i64 0 ∧ Hid (Kn wr [(w.heap.size + 1, crdC fun _ => none), (w.heap.size, crdC fun _ => none)]) ∧ Hid (Below w.heap.size w wr)) (fun _ _ => 0)
  case atStart => exact ⟨rfl, sk, bk⟩
  clear sk bk
  obtain ⟨rfl, sk, bk⟩ := hrel
  have TT : Hid (wr.there w.heap.size 0 (crdC fun _ => none).length) := Kn.there sk.out 1 rfl (by rw [crdC_length])
  go_wp2_with (first | refine wp_ldW rfl 30 _ rfl (w.heap.size + 1) 0 rfl (crdC fun _ => none) _ (Kn.rng sk.out 0 rfl) u_card rfl (info_card _) ?_ | refine I.wp_store_eq rfl 30 _ _ rfl w.heap.size 0 (crdC fun _ => none) rfl rfl TT.out (info_card _) (one_crd _) ?_)
  intro w9 hw9
  have s9 : Hid (Kn w9 [(w.heap.size, crdC fun _ => none), (w.heap.size + 1, crdC fun _ => none)]) := by
    rw [hw9.out]
    exact Kn.put (sk.out.front 1 rfl) (by rw [crdC_length])
  have b9 : Hid (Below w.heap.size w w9) := by
    rw [hw9.out]
    exact I.below_setCells _ _ _ bk.out (Nat.le_refl _)
  clear hw9 sk bk TT
  go_wp2_with fail
  exact bodyPost_ret (v := .agg (crdC fun _ => none).toArray) (I.results_cell (b := w.heap.size) rfl rfl (Kn.rng s9.out 0 rfl) u_card rfl (info_card _)) rfl ⟨rfl, b9.out⟩
theorem cardOf_fun (l : List Ar) (hs : l.length ≤ 4611686018427387904) (v : Value) (w : World) (hv : Ats w v l) : Calls Try.prog 11 #[v] w fun e w' => e = .returned (.agg (crdC (crdF l)).toArray) ∧ Below w.heap.size w w' := by
  obtain ⟨a, c, rfl⟩ := ats_parts hv
  by_cases h0 : l.length = 0
  · have el := List.length_eq_zero_iff.1 h0
    subst el
    exact cardOf_nil a c w
  · obtain ⟨b, o, rfl⟩ := hv.addr (by omega)
    exact cardOf_walk l _ rfl hs b o c w hv
/-- The attributes of a list's card are the rising ones. -/
theorem attrs_fun (l : List Ar) (lo : ∀ x ∈ l, lowB x.v) (w : World) : Calls Try.prog 12 #[.agg (crdC (crdF l)).toArray] w fun e w' => (∃ v, e = .returned v ∧ Ats w' v (risA l)) ∧ Below w.heap.size w w' := by
  refine (attrs_walk (crdF l) (fun i v h => ?_) w).mono fun e w' ⟨⟨v, he, ho⟩, hb⟩ => ⟨⟨v, he, ?_⟩, hb⟩
  · unfold crdF at h
    split at h
    · obtain ⟨x, hx, _, rfl⟩ := getA_mem h
      exact lo x hx
    · cases h
  · have := ho.ats
    rw [atsF_ris l 18 (Nat.le_refl _)] at this
    exact this
theorem by_two (w : World) (x y : Nat) : By (w.alloc (.cells #[.int .u8 (x : Int), .int .u8 (y : Int)] 5)) (.slice (some ⟨w.heap.size, 0, none⟩) 2 2) [x, y] :=
  ⟨_, 2, rfl, Nat.le_refl _, (fun h => by cases h), fun _ => ⟨w.heap.size, 0, rfl, fun j hj => by
    have hk := (Kn.nil w).al [.int .u8 (x : Int), .int .u8 (y : Int)] 5 rfl
    simp only [List.length_cons, List.length_nil] at hj
    match j, hj with
    | 0, _ => exact Kn.get hk 0 0 rfl rfl
    | 1, _ => exact Kn.get hk 0 1 rfl rfl⟩⟩
theorem texts_at {m : List Ar} {j : Nat} {x : Ar} (hx : m[j]? = some x) (h64 : x.v.length ≤ 64) : texts ((m.map itA).take (j + 1)) = texts ((m.map itA).take j) ++ ([x.k.toNat, x.v.length] ++ x.v) := by
  have e : (m.map itA)[j]? = some (itA x) := by rw [List.getElem?_map, hx]; rfl
  rw [texts_take_succ e]
  congr 1
  show x.k.toNat :: (lenB x.v.length ++ x.v) = _
  unfold lenB
  rw [if_pos (by omega)]
  rfl
set_option maxRecDepth 20000 in
set_option maxHeartbeats 4000000 in
theorem packed_walk (l m : List Ar) (v : Value) (w : World) (HV : Hid (Ats w v l)) (hm : ∀ x ∈ m, (1 ≤ x.k ∧ x.k ≤ 18) ∧ x.v.length ≤ 64) (hn : m.length ≤ 18)
    (C1 : ∀ W, Ats W v l → Calls Try.prog 11 #[v] W fun e w' => e = .returned (.agg (crdC (crdF l)).toArray) ∧ Below W.heap.size W w')
    (A1 : ∀ W, Calls Try.prog 12 #[.agg (crdC (crdF l)).toArray] W fun e w' => (∃ u, e = .returned u ∧ Ats w' u m) ∧ Below W.heap.size W w') :
    Calls Try.prog 24 #[v] w fun e w' => e = .returned (.string (sOf (texts (m.map itA)))) ∧ Below w.heap.size w w' := by
  have HM : Hid _ := hm
  clear hm
  generalize hN : m.length = n at *
  have HN : Hid (m.length = n ∧ n ≤ 18) := ⟨hN, hn⟩
  clear hN hn
  go_enter Try.func24, Try.ntmps24
  go_wp2_with fail
  refine (C1 w HV.out).mono ?_
  rintro e w1 ⟨rfl, hb⟩
  have b1 : Hid (Below w.heap.size w w1) := hb
  clear hb C1 HV
  generalize (crdC (crdF l)).toArray = cc at *
  go_wp2_with fail
  refine (A1 w1).mono ?_
  rintro e w2 ⟨⟨u, rfl, hu⟩, hb⟩
  have b2 : Hid (Below w.heap.size w w2) := b1.out.trans (hb.mono b1.out.size)
  have U2 : Hid (Ats w2 u m) := hu
  obtain ⟨ua, uc, hu'⟩ := ats_parts U2.out
  rw [HN.out.1] at hu'
  subst hu'
  clear hb hu b1 A1
  have e0 : sOf [] = sOf (texts ((m.map itA).take 0)) := rfl
  go_wp2_with fail
  go_loopw [3, 10] (fun s i wr => ∃ j : Nat, j ≤ n ∧ s = .string (sOf (texts ((m.map itA).take j))) ∧ i = .int .i64 (j : Int) ∧ Hid (Below w2.heap.size w2 wr)) (fun _ i _ => n - (intOf i).toNat)
  case atStart => exact ⟨0, Nat.zero_le _, rfl, rfl, Below.refl _ _⟩
  case round =>
    clear e0
    obtain ⟨j, hj, rfl, rfl, bk⟩ := hrel
    by_cases hlt : j < n
    · have i1 : (j : Int) < (n : Int) := by omega
      have i0 : (0 : Int) ≤ (j : Int) := by omega
      have jn : (n : Int) ≤ 18 := by have := HN.out.2; omega
      have HJ : Hid (j < n) := hlt
      obtain ⟨b, o, rfl⟩ := U2.out.addr (by omega)
      obtain ⟨x, hx⟩ : ∃ x, Hid (m[j]? = some x) := ⟨m[j]'(by have := HN.out; omega), List.getElem?_eq_getElem _⟩
      obtain ⟨⟨k1, k18⟩, v64⟩ := HM.out x (List.mem_of_getElem? hx.out)
      obtain ⟨xa, xc, ex⟩ := (U2.out.up bk.out (Nat.le_refl _)).elem hx.out
      have TX := texts_at hx.out v64
      obtain ⟨i, hi⟩ : ∃ i : Nat, x.k = (i : Int) := ⟨x.k.toNat, by omega⟩
      have EX : Hid (AtE wr b (o + j * 2) x xa xc) := ex
      have R1 : Hid (wr.rangeAt b (o + j * 2) [.int .i64 (i : Int), .slice xa x.v.length xc]) := by have := EX.out.rng; rw [hi] at this; exact this
      have R2 : Hid (∀ (C : Array Value) t, (wr.alloc (.cells C t)).rangeAt b (o + j * 2) [.int .i64 (i : Int), .slice xa x.v.length xc]) := fun C t => by have := (EX.out.up ((Below.refl _ _).alloc (Nat.le_refl _) (.cells C t))).rng; rw [hi] at this; exact this
      have s2 : Hid (Kn (wr.alloc (.cells #[.int .i64 (i : Int), .slice xa x.v.length xc] 50)) [(wr.heap.size, [.int .i64 (i : Int), .slice xa x.v.length xc])]) := (Kn.nil wr).al [.int .i64 (i : Int), .slice xa x.v.length xc] 50 rfl
      have b2' : Hid (Below w2.heap.size w2 (wr.alloc (.cells #[.int .i64 (i : Int), .slice xa x.v.length xc] 50))) := bk.out.alloc bk.out.size _
      have V2 : Hid (By (wr.alloc (.cells #[.int .i64 (i : Int), .slice xa x.v.length xc] 50)) (.slice xa x.v.length xc) x.v) := EX.out.2.2.up ((Below.refl _ _).alloc (Nat.le_refl _) _) (Nat.le_refl _)
      have u0 := Kn.get s2.out 0 0 rfl rfl
      have u1 := Kn.get s2.out 0 1 rfl rfl
      rw [hi, Int.toNat_natCast] at TX
      have wk : IntKind.u8.wrap (i : Int) = (i : Int) := by rw [IntKind.wrap_u8]; omega
      have wl : IntKind.u8.wrap (x.v.length : Int) = (x.v.length : Int) := by rw [IntKind.wrap_u8]; omega
      have TX' : Hid _ := TX
      have z1 : ¬ 9223372036854775807 < (sOf [i, x.v.length]).size + (sOf x.v).size := by
        rw [sOf_size, sOf_size, List.length_cons, List.length_cons, List.length_nil]
        omega
      have z2 : ¬ 9223372036854775807 < (sOf (texts ((m.map itA).take j))).size + ((sOf [i, x.v.length]).size + (sOf x.v).size) := by
        have h1 := texts_len64 ((m.map itA).take j) fun y hy => by
          obtain ⟨q, hq, rfl⟩ := List.mem_map.1 (List.mem_of_mem_take hy)
          exact (HM.out q hq).2
        rw [List.length_take, List.length_map] at h1
        have h2 := HN.out
        rw [sOf_size, sOf_size, sOf_size, List.length_cons, List.length_cons, List.length_nil]
        omega
      clear hlt hj ex bk k1 k18 v64 TX hi
      go_upto_region 5 with (first | simp only [zero_attr] | refine wp_ldW rfl 50 _ rfl b (o + j * 2) rfl [.int .i64 (i : Int), .slice xa x.v.length xc] _ (by first | exact R1.out | exact R2.out _ _) u_attr rfl (info_attr _ _) ?_)
      clear R1 R2 EX
      generalize (wr.alloc (.cells #[.int .i64 (i : Int), .slice xa x.v.length xc] 50)) = W at *
      generalize wr.heap.size = k at *
      have Y1 : Hid (By (W.alloc (.cells #[.int .u8 (i : Int), .int .u8 (x.v.length : Int)] 5)) (.slice (some ⟨W.heap.size, 0, none⟩) 2 2) [i, x.v.length]) := by_two W i x.v.length
      have Y2 : Hid (By (W.alloc (.cells #[.int .u8 (i : Int), .int .u8 (x.v.length : Int)] 5)) (.slice xa x.v.length xc) x.v) := V2.out.up ((Below.refl _ _).alloc (Nat.le_refl _) _) (Nat.le_refl _)
      have b3 : Hid (Below w2.heap.size w2 (W.alloc (.cells #[.int .u8 (i : Int), .int .u8 (x.v.length : Int)] 5))) := b2'.out.alloc b2'.out.size _
      go_wp2_with (first | refine wp_conv rfl (.tmp 22) rfl _ [i, x.v.length] rfl Y1.out ?_ | refine wp_conv rfl (.tmp 25) rfl _ x.v rfl Y2.out ?_)
      clear u0 u1 wk wl s2 V2 Y1 Y2 b2' z1 z2
      go_roundw
      case rel => exact ⟨j + 1, HJ.out, by rw [TX'.out, ← sOf_append, ← sOf_append], by go_num, b3⟩
      case measure => simp [intOf]; have := HJ.out; omega
    · have i1 : ¬ (j : Int) < (n : Int) := by omega
      have e : (m.map itA).take j = m.map itA := List.take_of_length_le (by rw [List.length_map]; have := HN.out; omega)
      rw [e]
      clear hlt hj e
      have b4 : Hid (Below w.heap.size w wr) := b2.out.trans (bk.out.mono b2.out.size)
      go_wp2_with fail
      go_ret
      exact ⟨rfl, b4.out⟩
/-- PackedAttrs of a list that the document takes. -/
theorem packed_fun (l : List Ar) (h24 : l.length ≤ 24) (hg : goodA l) (lo : ∀ x ∈ l, lowB x.v) (v : Value) (w : World) (hv : Ats w v l) : Calls Try.prog 24 #[v] w fun e w' => e = .returned (.string (sOf (packA l))) ∧ Below w.heap.size w w' :=
  packed_walk l (risA l) v w hv (fun x hx => by
    have hm := risA_mem.1 hx
    exact ⟨hm.1, fit_len (good_of_get hg.1 hm.2).2.2⟩) (risA_len l) (fun W h => cardOf_fun l (by omega) v W h) (fun W => attrs_fun l lo W)
end Go.Proofs.Ytohliojdmmbcdaa
