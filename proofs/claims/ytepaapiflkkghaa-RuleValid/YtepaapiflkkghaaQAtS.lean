/- Attributes: FirstOf, Fits and SameAttrs as the document has them. -/
import Derived.Test.YtepaapiflkkghaaQAtMToRuM
import Derived.Test.YtepaapiflkkghaaQNumToKn
import Derived.Test.YtepaapiflkkghaaQUpToKnO
import Derived.Test.YtepaapiflkkghaaQAl
import Derived.Test.YtepaapiflkkghaaQUpMToUpMG
import Derived.Test.YtepaapiflkkghaaQYcToYo
namespace Go.Proofs.Ytepaapiflkkghaa
open Go.RowKit
attribute [local go_sem] World.cell?_alloc_some cell_alloc2 cell_alloc3 cell_alloc4 frozen?_alloc_cells frozen_out
attribute [local go_sem] YieldsP execOp
attribute [local simp] MP.eq_p
set_option linter.unusedSimpArgs false
theorem yields_cvA {o : Oper} {a : Act} {w : World} (x : Operand) (ho : o.op = .convert 42 9 x) (u : Value) (xs : List Nat) (hx : a.eval x = u) (h : By w u xs) : YieldsP Try.prog o a w (MP.eq (.string (sOf xs))).p :=
  yields_run (by
    have e1 := bytes_conv h
    generalize a.eval = ev at *
    unfold execOp
    simp [ho, hx, e1])
def atZ : List Value := [.int .i64 0, .slice none 0 0]
theorem u_attr : Try.prog.underlying 64 = some (.struct (match Try.prog.underlying 64 with | some (.struct fs) => fs | _ => #[])) := by kernel_rfl
theorem info_attr (k : Int) (u : Value) : (Try.prog.info? 64).map (·.size) = some ([Value.int .i64 k, u] : List Value).length := by kernel_rfl
theorem zero_attr (w : World) : (zeroValue 64).run Try.prog w = .ok (.agg atZ.toArray) w := I.zero_of (by kernel_rfl) w
/-- An element in memory, as it lies in one world; it stays. -/
def AtE (w : World) (b o : Nat) (x : Ar) (a : Option Addr) (c : Nat) : Prop := w.cell? ⟨b, o, none⟩ = some (.int .i64 x.k) ∧ w.cell? ⟨b, o + 1, none⟩ = some (.slice a x.v.length c) ∧ By w (.slice a x.v.length c) x.v
theorem AtE.up {w w1 : World} {b o : Nat} {x : Ar} {a : Option Addr} {c : Nat} (h : AtE w b o x a c) (hb : Below w.heap.size w w1) : AtE w1 b o x a c :=
  ⟨(hb.cell (p := ⟨b, _, none⟩) (lt_of_cellB h.1)).trans h.1, (hb.cell (p := ⟨b, _, none⟩) (lt_of_cellB h.2.1)).trans h.2.1, h.2.2.up hb (Nat.le_refl _)⟩
theorem AtE.rng {w : World} {b o : Nat} {x : Ar} {a : Option Addr} {c : Nat} (h : AtE w b o x a c) : w.rangeAt b o [.int .i64 x.k, .slice a x.v.length c] := fun j v hv => by
  match j, hv with
  | 0, hv =>
    obtain rfl := Option.some.inj hv
    exact h.1
  | 1, hv =>
    obtain rfl := Option.some.inj hv
    exact h.2.1
theorem Ats.elem {w : World} {b o n c : Nat} {l : List Ar} (h : Ats w (.slice (some ⟨b, o, none⟩) n c) l) {j : Nat} {x : Ar} (hx : l[j]? = some x) : ∃ a d, AtE w b (o + j * 2) x a d := by
  obtain ⟨a', c', e, -, -, h2⟩ := id h
  cases e
  have hj := (List.getElem?_eq_some_iff.1 hx).1
  obtain ⟨b', o', e, h3⟩ := h2 (by omega)
  cases e
  obtain ⟨h1, u, h4, h5⟩ := h3 j x hx
  obtain ⟨a, d, rfl, -⟩ := id h5
  exact ⟨a, d, h1, h4, h5⟩
theorem Ats.addr {w : World} {a : Option Addr} {n c : Nat} {l : List Ar} (h : Ats w (.slice a n c) l) (hn : 0 < n) : ∃ b o, a = some ⟨b, o, none⟩ := by
  obtain ⟨b, o, e, -⟩ := h.rows hn
  exact ⟨b, o, e⟩
theorem getA_take {l : List Ar} {k : Int} {j : Nat} {x : Ar} (no : ∀ (i : Nat) (y : Ar), i < j → l[i]? = some y → y.k ≠ k) (hx : l[j]? = some x) (hk : x.k = k) : getA l k = some x.v := by
  induction l generalizing j with
  | nil => cases hx
  | cons y l ih =>
    rw [getA]
    cases j with
    | zero =>
      obtain rfl : y = x := by simpa using hx
      rw [if_pos hk]
    | succ j =>
      rw [if_neg (no 0 y (Nat.succ_pos _) rfl)]
      exact ih (j := j) (fun i z hi hz => no (i + 1) z (by omega) (by simpa using hz)) (by simpa using hx)
theorem getA_out {l : List Ar} {k : Int} (no : ∀ (i : Nat) (y : Ar), l[i]? = some y → y.k ≠ k) : getA l k = none := by
  cases h : getA l k with
  | none => rfl
  | some v =>
    obtain ⟨x, hx, hk, _⟩ := getA_mem h
    obtain ⟨i, hi, rfl⟩ := List.getElem_of_mem hx
    exact absurd hk (no i _ (List.getElem?_eq_getElem hi))
set_option maxHeartbeats 1000000 in
theorem firstOf_nil (a : Option Addr) (c : Nat) (k : Int) (w : World) : Calls Try.prog 24 #[.slice a 0 c, .int .i64 k] w fun e w' => e = .returned (.tuple #[.string (sOf []), .bool false]) ∧ Below w.heap.size w w' := by
  go_enter Try.func24, Try.ntmps24
  go_wp2_with fail
  refine wp_loop_rounds 1 ?_
  rw [rounds_succ]
  go_wp2_with fail
  go_ret2
  exact ⟨rfl, Below.refl _ _⟩
set_option maxRecDepth 20000 in
set_option maxHeartbeats 2000000 in
theorem firstOf_walk (l : List Ar) (n : Nat) (hn : l.length = n) (hs : n ≤ 4611686018427387904) (b o c : Nat) (k : Int) (w : World) (HA : Hid (Ats w (.slice (some ⟨b, o, none⟩) n c) l)) :
    Calls Try.prog 24 #[.slice (some ⟨b, o, none⟩) n c, .int .i64 k] w fun e w' => e = .returned (.tuple #[.string (sOf ((getA l k).getD [])), .bool (getA l k).isSome]) ∧ Below w.heap.size w w' := by
  have HN : Hid (l.length = n ∧ (n : Int) ≤ 4611686018427387904) := ⟨hn, by omega⟩
  clear hn hs
  go_enter Try.func24, Try.ntmps24
  go_wp2_with fail
  go_loopw [10] (fun i wr => ∃ j : Nat, j ≤ n ∧ i = .int .i64 (j : Int) ∧ Hid (∀ (i : Nat) (y : Ar), i < j → l[i]? = some y → y.k ≠ k) ∧ Hid (Below w.heap.size w wr)) (fun i _ => n - (intOf i).toNat)
  case atStart => exact ⟨0, Nat.zero_le _, rfl, fun i y hi => absurd hi (Nat.not_lt_zero _), Below.refl _ _⟩
  case round =>
    obtain ⟨j, hj, rfl, no, bk⟩ := hrel
    by_cases hlt : j < n
    · have i1 : (j : Int) < (n : Int) := by omega
      have i0 : (0 : Int) ≤ (j : Int) := by omega
      have jn : (n : Int) ≤ 4611686018427387904 := HN.out.2
      have HJ : Hid (j < n) := hlt
      obtain ⟨x, hx⟩ : ∃ x, Hid (l[j]? = some x) := ⟨l[j]'(by have := HN.out; omega), List.getElem?_eq_getElem _⟩
      obtain ⟨xa, xc, ex⟩ := (HA.out.up bk.out (Nat.le_refl _)).elem hx.out
      have EX : Hid (AtE wr b (o + j * 2) x xa xc) := ex
      have E1 : Hid (∀ (C : Array Value) t, AtE (wr.alloc (.cells C t)) b (o + j * 2) x xa xc) := fun C t => EX.out.up ((Below.refl _ _).alloc (Nat.le_refl _) _)
      have s2 : Hid (Kn (wr.alloc (.cells #[.int .i64 x.k, .slice xa x.v.length xc] 64)) [(wr.heap.size, [.int .i64 x.k, .slice xa x.v.length xc])]) := (Kn.nil wr).al [.int .i64 x.k, .slice xa x.v.length xc] 64 rfl
      have b2 : Hid (Below w.heap.size w (wr.alloc (.cells #[.int .i64 x.k, .slice xa x.v.length xc] 64))) := bk.out.alloc bk.out.size _
      have u0 := Kn.get s2.out 0 0 rfl rfl
      have u1 := Kn.get s2.out 0 1 rfl rfl
      clear hlt hj ex bk
      by_cases hk : x.k = k
      · have hk' : (x.k == k) = true := beq_iff_eq.2 hk
        have hg := getA_take no.out hx.out hk
        clear hk no
        go_wp2_with (first | simp only [zero_attr] | refine wp_ldW rfl 64 _ rfl b (o + j * 2) rfl [.int .i64 x.k, .slice xa x.v.length xc] _ (by first | exact EX.out.rng | exact (E1.out _ _).rng) u_attr rfl (info_attr _ _) ?_ | refine wp_conv rfl _ rfl _ x.v rfl (E1.out _ _).2.2 ?_)
        go_ret2
        try rw [hg]
        exact ⟨rfl, b2.out⟩
      · have hk' : (x.k == k) = false := beq_eq_false_iff_ne.2 hk
        have no' : Hid (∀ (i : Nat) (y : Ar), i < j + 1 → l[i]? = some y → y.k ≠ k) := fun i y hi hy => by
          by_cases e : i = j
          · rw [e, hx.out] at hy
            obtain rfl := Option.some.inj hy
            exact hk
          · exact no.out i y (by omega) hy
        clear hk no
        go_wp2_with (first | simp only [zero_attr] | refine wp_ldW rfl 64 _ rfl b (o + j * 2) rfl [.int .i64 x.k, .slice xa x.v.length xc] _ (by first | exact EX.out.rng | exact (E1.out _ _).rng) u_attr rfl (info_attr _ _) ?_)
        clear u0 u1
        go_roundw
        case rel => exact ⟨j + 1, HJ.out, by go_num, no', b2⟩
        case measure => simp [intOf]; have := HJ.out; omega
    · have i1 : ¬ (j : Int) < (n : Int) := by omega
      have hg : getA l k = none := getA_out fun i y hy => no.out i y (by have := (List.getElem?_eq_some_iff.1 hy).1; have := HN.out; omega) hy
      clear hlt hj
      go_wp2_with fail
      go_ret2
      try rw [hg]
      exact ⟨rfl, bk.out⟩
theorem firstOf_fun (l : List Ar) (hs : l.length ≤ 4611686018427387904) (k : Int) (v : Value) (w : World) (hv : Ats w v l) :
    Calls Try.prog 24 #[v, .int .i64 k] w fun e w' => e = .returned (.tuple #[.string (sOf ((getA l k).getD [])), .bool (getA l k).isSome]) ∧ Below w.heap.size w w' := by
  obtain ⟨a, c, rfl⟩ := ats_parts hv
  by_cases h0 : l.length = 0
  · have hl := List.length_eq_zero_iff.1 h0
    subst hl
    exact firstOf_nil a c k w
  · obtain ⟨b, o, rfl⟩ := hv.addr (by omega)
    exact firstOf_walk l _ rfl hs b o c k w hv
theorem neB {x y : Ar} (hx : lowB x.v) (hy : lowB y.v) : ((sOf x.v).toList == (sOf y.v).toList) = decide (x.v = y.v) := sOf_beq hx hy
set_option maxHeartbeats 1000000 in
theorem sameR_len (a d : Option Addr) (n m c e : Nat) (h : n ≠ m) (w : World) : Calls Try.prog 18 #[.slice a n c, .slice d m e] w fun e w' => e = .returned (.bool false) ∧ Below w.heap.size w w' := by
  have h' : ((n : Int) != (m : Int)) = true := bne_iff_ne.2 (by omega)
  clear h
  go_enter Try.func18, Try.ntmps18
  go_wp2_with fail
  go_ret
  exact ⟨rfl, Below.refl _ _⟩
set_option maxHeartbeats 1000000 in
theorem sameR_nil (a d : Option Addr) (c e : Nat) (w : World) : Calls Try.prog 18 #[.slice a 0 c, .slice d 0 e] w fun e w' => e = .returned (.bool true) ∧ Below w.heap.size w w' := by
  go_enter Try.func18, Try.ntmps18
  go_wp2_with fail
  refine wp_loop_rounds 1 ?_
  rw [rounds_succ]
  go_wp2_with fail
  go_ret
  exact ⟨rfl, Below.refl _ _⟩
set_option maxRecDepth 20000 in
set_option maxHeartbeats 2000000 in
theorem sameR_walk (l m : List Ar) (n : Nat) (hl : l.length = n) (hm : m.length = n) (hs : n ≤ 4611686018427387904) (lo : ∀ x ∈ l, lowB x.v) (mo : ∀ x ∈ m, lowB x.v) (b o c d q e : Nat) (w : World)
    (HA : Hid (Ats w (.slice (some ⟨b, o, none⟩) n c) l)) (HB : Hid (Ats w (.slice (some ⟨d, q, none⟩) n e) m)) :
    Calls Try.prog 18 #[.slice (some ⟨b, o, none⟩) n c, .slice (some ⟨d, q, none⟩) n e] w fun e w' => (∃ t : Bool, e = .returned (.bool t) ∧ (t = true ↔ l = m)) ∧ Below w.heap.size w w' := by
  have HN : Hid (l.length = n ∧ m.length = n ∧ (n : Int) ≤ 4611686018427387904) := ⟨hl, hm, by omega⟩
  have HL : Hid ((∀ x ∈ l, lowB x.v) ∧ ∀ x ∈ m, lowB x.v) := ⟨lo, mo⟩
  clear hl hm hs lo mo
  go_enter Try.func18, Try.ntmps18
  go_wp2_with fail
  go_loopw [13] (fun i wr => ∃ j : Nat, j ≤ n ∧ i = .int .i64 (j : Int) ∧ Hid (∀ i : Nat, i < j → l[i]? = m[i]?) ∧ Hid (Below w.heap.size w wr)) (fun i _ => n - (intOf i).toNat)
  case atStart => exact ⟨0, Nat.zero_le _, rfl, fun i hi => absurd hi (Nat.not_lt_zero _), Below.refl _ _⟩
  case round =>
    obtain ⟨j, hj, rfl, no, bk⟩ := hrel
    by_cases hlt : j < n
    · have i1 : (j : Int) < (n : Int) := by omega
      have i0 : (0 : Int) ≤ (j : Int) := by omega
      have jn : (n : Int) ≤ 4611686018427387904 := HN.out.2.2
      have HJ : Hid (j < n) := hlt
      obtain ⟨x, hx⟩ : ∃ x, Hid (l[j]? = some x) := ⟨l[j]'(by have := HN.out; omega), List.getElem?_eq_getElem _⟩
      obtain ⟨y, hy⟩ : ∃ y, Hid (m[j]? = some y) := ⟨m[j]'(by have := HN.out; omega), List.getElem?_eq_getElem _⟩
      obtain ⟨xa, xc, ex⟩ := (HA.out.up bk.out (Nat.le_refl _)).elem hx.out
      obtain ⟨ya, yc, ey⟩ := (HB.out.up bk.out (Nat.le_refl _)).elem hy.out
      have EX : Hid (AtE wr b (o + j * 2) x xa xc) := ex
      have EY : Hid (AtE wr d (q + j * 2) y ya yc) := ey
      have NB : Hid _ := neB (HL.out.1 x (List.mem_of_getElem? hx.out)) (HL.out.2 y (List.mem_of_getElem? hy.out))
      clear hlt hj ex ey
      by_cases hk : x.k = y.k
      · have hk' : (x.k != y.k) = false := by rw [hk]; simp
        have hk2 : Hid (x.k = y.k) := hk
        obtain ⟨z, hz⟩ : ∃ z, Hid (decide (x.v = y.v) = z) := ⟨_, rfl⟩
        have ht : ((sOf x.v).toList == (sOf y.v).toList) = z := by rw [NB.out, hz.out]
        clear NB hk
        go_wp2_with fail
        refine wp_region_monoGE [MP.eq (.slice (some ⟨b, o, none⟩) n c), MP.eq (.int .i64 (j : Int)), MP.eq (.pointer (some ⟨b, o + j * 2, none⟩)), MP.eq (.pointer (some ⟨b, o + j * 2, none⟩)), MP.eq (.int .i64 x.k), MP.eq (.slice (some ⟨d, q, none⟩) n e), MP.eq (.int .i64 (j : Int)), MP.eq (.pointer (some ⟨d, q + j * 2, none⟩)), MP.eq (.pointer (some ⟨d, q + j * 2, none⟩)), MP.eq (.int .i64 y.k), MP.eq (.bool false), MP.eq (.bool false), MP.eq (.slice (some ⟨b, o, none⟩) n c), MP.eq (.int .i64 (j : Int)), MP.eq (.pointer (some ⟨b, o + j * 2, none⟩)), MP.eq (.pointer (some ⟨b, o + j * 2 + 1, none⟩)), MP.eq (.slice xa x.v.length xc), MP.eq (.string (sOf x.v)), MP.eq (.slice (some ⟨d, q, none⟩) n e), MP.eq (.int .i64 (j : Int)), MP.eq (.pointer (some ⟨d, q + j * 2, none⟩)), MP.eq (.pointer (some ⟨d, q + j * 2 + 1, none⟩)), MP.eq (.slice ya y.v.length yc), MP.eq (.string (sOf y.v)), MP.eq (.bool (!z)), MP.eq (.bool (!z))] (by kernel_rfl) (by kernel_rfl) rfl ?_
        apply Exists.intro
        refine ⟨fun vals => ?_, ?_, fun vals2 w2 hb2 hF => ?_⟩
        · simp only [putsV, dstL, List.length_cons, List.length_nil, Nat.zero_add, Nat.reduceAdd, List.getElem?_cons_zero, List.getElem?_cons_succ, Option.bind_some, Act.put, List.setIfInBounds_toArray, List.set_cons_succ, List.set_cons_zero]
          rfl
        · refine ⟨?_, ?_, ?_, ?_, ?_, ?_, ?_, ?_, ?_, ?_, ?_, ?_, ?_, ?_, ?_, ?_, ?_, ?_, ?_, ?_, ?_, ?_, ?_, ?_, ?_, ?_, trivial⟩
          · intro vals W hW hw hd
            try simp [Region.binds] at hd
            refine .inl ⟨by first | rfl | simp [Region.wanted, yielded, hd], ?_⟩
            simp [go_sem, hd]
            exact Below.refl _ _
          · intro vals W hW hw hd
            try simp [Region.binds] at hd
            refine .inl ⟨by first | rfl | simp [Region.wanted, yielded, hd], ?_⟩
            simp [go_sem, hd]
            exact Below.refl _ _
          · intro vals W hW hw hd
            try simp [Region.binds] at hd
            refine .inl ⟨by first | rfl | simp [Region.wanted, yielded, hd], ?_⟩
            simp [go_sem, hd, i0, i1]
            exact Below.refl _ _
          · intro vals W hW hw hd
            try simp [Region.binds] at hd
            refine .inl ⟨by first | rfl | simp [Region.wanted, yielded, hd], ?_⟩
            simp [go_sem, hd]
            exact Below.refl _ _
          · intro vals W hW hw hd
            try simp [Region.binds] at hd
            refine .inl ⟨by first | rfl | simp [Region.wanted, yielded, hd], ?_⟩
            have u0 := (EX.out.up hW.out).1
            simp [go_sem, hd, u0]
            exact Below.refl _ _
          · intro vals W hW hw hd
            try simp [Region.binds] at hd
            refine .inl ⟨by first | rfl | simp [Region.wanted, yielded, hd], ?_⟩
            simp [go_sem, hd]
            exact Below.refl _ _
          · intro vals W hW hw hd
            try simp [Region.binds] at hd
            refine .inl ⟨by first | rfl | simp [Region.wanted, yielded, hd], ?_⟩
            simp [go_sem, hd]
            exact Below.refl _ _
          · intro vals W hW hw hd
            try simp [Region.binds] at hd
            refine .inl ⟨by first | rfl | simp [Region.wanted, yielded, hd], ?_⟩
            simp [go_sem, hd, i0, i1]
            exact Below.refl _ _
          · intro vals W hW hw hd
            try simp [Region.binds] at hd
            refine .inl ⟨by first | rfl | simp [Region.wanted, yielded, hd], ?_⟩
            simp [go_sem, hd]
            exact Below.refl _ _
          · intro vals W hW hw hd
            try simp [Region.binds] at hd
            refine .inl ⟨by first | rfl | simp [Region.wanted, yielded, hd], ?_⟩
            have u0 := (EY.out.up hW.out).1
            simp [go_sem, hd, u0]
            exact Below.refl _ _
          · intro vals W hW hw hd
            try simp [Region.binds] at hd
            refine .inl ⟨by first | rfl | simp [Region.wanted, yielded, hd], ?_⟩
            simp [go_sem, hd, hk']
            exact Below.refl _ _
          · intro vals W hW hw hd
            try simp [Region.binds] at hd
            refine .inl ⟨by first | rfl | simp [Region.wanted, yielded, hd], ?_⟩
            simp [go_sem, hd]
            exact Below.refl _ _
          · intro vals W hW hw hd
            try simp [Region.binds] at hd
            refine .inl ⟨by first | rfl | simp [Region.wanted, yielded, hd], ?_⟩
            simp [go_sem, hd]
            exact Below.refl _ _
          · intro vals W hW hw hd
            try simp [Region.binds] at hd
            refine .inl ⟨by first | rfl | simp [Region.wanted, yielded, hd], ?_⟩
            simp [go_sem, hd]
            exact Below.refl _ _
          · intro vals W hW hw hd
            try simp [Region.binds] at hd
            refine .inl ⟨by first | rfl | simp [Region.wanted, yielded, hd], ?_⟩
            simp [go_sem, hd, i0, i1]
            exact Below.refl _ _
          · intro vals W hW hw hd
            try simp [Region.binds] at hd
            refine .inl ⟨by first | rfl | simp [Region.wanted, yielded, hd], ?_⟩
            simp [go_sem, hd]
            exact Below.refl _ _
          · intro vals W hW hw hd
            try simp [Region.binds] at hd
            refine .inl ⟨by first | rfl | simp [Region.wanted, yielded, hd], ?_⟩
            have u0 := (EX.out.up hW.out).2.1
            simp [go_sem, hd, u0]
            exact Below.refl _ _
          · intro vals W hW hw hd
            try simp [Region.binds] at hd
            refine .inl ⟨by first | rfl | simp [Region.wanted, yielded, hd], ?_⟩
            exact yields_cvA _ rfl _ x.v (by first | exact hd | exact hd.1 | exact hd.2 | exact hd.2.1 | exact hd.2.2 | exact hd.2.2.1 | exact hd.2.2.2 | exact hd.2.2.2.1 | exact hd.2.2.2.2) (EX.out.up hW.out).2.2
          · intro vals W hW hw hd
            try simp [Region.binds] at hd
            refine .inl ⟨by first | rfl | simp [Region.wanted, yielded, hd], ?_⟩
            simp [go_sem, hd]
            exact Below.refl _ _
          · intro vals W hW hw hd
            try simp [Region.binds] at hd
            refine .inl ⟨by first | rfl | simp [Region.wanted, yielded, hd], ?_⟩
            simp [go_sem, hd]
            exact Below.refl _ _
          · intro vals W hW hw hd
            try simp [Region.binds] at hd
            refine .inl ⟨by first | rfl | simp [Region.wanted, yielded, hd], ?_⟩
            simp [go_sem, hd, i0, i1]
            exact Below.refl _ _
          · intro vals W hW hw hd
            try simp [Region.binds] at hd
            refine .inl ⟨by first | rfl | simp [Region.wanted, yielded, hd], ?_⟩
            simp [go_sem, hd]
            exact Below.refl _ _
          · intro vals W hW hw hd
            try simp [Region.binds] at hd
            refine .inl ⟨by first | rfl | simp [Region.wanted, yielded, hd], ?_⟩
            have u0 := (EY.out.up hW.out).2.1
            simp [go_sem, hd, u0]
            exact Below.refl _ _
          · intro vals W hW hw hd
            try simp [Region.binds] at hd
            refine .inl ⟨by first | rfl | simp [Region.wanted, yielded, hd], ?_⟩
            exact yields_cvA _ rfl _ y.v (by first | exact hd | exact hd.1 | exact hd.2 | exact hd.2.1 | exact hd.2.2 | exact hd.2.2.1 | exact hd.2.2.2 | exact hd.2.2.2.1 | exact hd.2.2.2.2) (EY.out.up hW.out).2.2
          · intro vals W hW hw hd
            try simp [Region.binds] at hd
            refine .inl ⟨by first | rfl | simp [Region.wanted, yielded, hd], ?_⟩
            simp [go_sem, hd, ht]
            exact Below.refl _ _
          · intro vals W hW hw hd
            try simp [Region.binds] at hd
            refine .inl ⟨by first | rfl | simp [Region.wanted, yielded, hd], ?_⟩
            simp [go_sem, hd]
            exact Below.refl _ _
        obtain ⟨f0, f1, f2, f3, f4, f5, f6, f7, f8, f9, f10, f11, f12, f13, f14, f15, f16, f17, f18, f19, f20, f21, f22, f23, f24, f25, _⟩ := hF
        simp only [MP.eq_p] at f0 f1 f2 f3 f4 f5 f6 f7 f8 f9 f10 f11 f12 f13 f14 f15 f16 f17 f18 f19 f20 f21 f22 f23 f24 f25
        have b2 : Hid (Below w.heap.size w w2) := bk.out.trans (hb2.out.mono bk.out.size)
        rw [f25]
        clear f0 f1 f2 f3 f4 f5 f6 f7 f8 f9 f10 f11 f12 f13 f14 f15 f16 f17 f18 f19 f20 f21 f22 f23 f24 f25 hb2 EX EY bk
        cases z with
        | true =>
          have no' : Hid (∀ i : Nat, i < j + 1 → l[i]? = m[i]?) := fun i hi => by
            by_cases e : i = j
            · have hv := of_decide_eq_true hz.out
              have hk := hk2.out
              rw [e, hx.out, hy.out]
              cases x; cases y
              simp only at hk hv
              rw [hk, hv]
            · exact no.out i (by omega)
          go_wp2_with fail
          go_roundw
          case rel => exact ⟨j + 1, HJ.out, by go_num, no', b2⟩
          case measure => simp [intOf]; have := HJ.out; omega
        | false =>
          have ne : Hid (¬ l = m) := fun e => by
            have h2 := hx.out
            rw [e, hy.out] at h2
            exact of_decide_eq_false hz.out (by rw [Option.some.inj h2])
          go_wp2_with fail
          go_ret
          exact ⟨⟨false, rfl, fun h => absurd h (by decide), fun h => absurd h ne.out⟩, b2.out⟩
      · have hk' : (x.k != y.k) = true := bne_iff_ne.2 hk
        have ne : Hid (¬ l = m) := fun e => by
          have h2 := hx.out
          rw [e, hy.out] at h2
          exact hk (by rw [Option.some.inj h2])
        clear hk NB no
        go_wp2_with fail
        refine wp_region_monoGE [MP.eq (.slice (some ⟨b, o, none⟩) n c), MP.eq (.int .i64 (j : Int)), MP.eq (.pointer (some ⟨b, o + j * 2, none⟩)), MP.eq (.pointer (some ⟨b, o + j * 2, none⟩)), MP.eq (.int .i64 x.k), MP.eq (.slice (some ⟨d, q, none⟩) n e), MP.eq (.int .i64 (j : Int)), MP.eq (.pointer (some ⟨d, q + j * 2, none⟩)), MP.eq (.pointer (some ⟨d, q + j * 2, none⟩)), MP.eq (.int .i64 y.k), MP.eq (.bool true), MP.eq (.bool true), MP.eq undef, MP.eq undef, MP.eq undef, MP.eq undef, MP.eq undef, MP.eq undef, MP.eq undef, MP.eq undef, MP.eq undef, MP.eq undef, MP.eq undef, MP.eq undef, MP.eq undef, MP.eq (.bool true)] (by kernel_rfl) (by kernel_rfl) rfl ?_
        apply Exists.intro
        refine ⟨fun vals => ?_, ?_, fun vals2 w2 hb2 hF => ?_⟩
        · simp only [putsV, dstL, List.length_cons, List.length_nil, Nat.zero_add, Nat.reduceAdd, List.getElem?_cons_zero, List.getElem?_cons_succ, Option.bind_some, Act.put, List.setIfInBounds_toArray, List.set_cons_succ, List.set_cons_zero]
          rfl
        · refine ⟨?_, ?_, ?_, ?_, ?_, ?_, ?_, ?_, ?_, ?_, ?_, ?_, ?_, ?_, ?_, ?_, ?_, ?_, ?_, ?_, ?_, ?_, ?_, ?_, ?_, ?_, trivial⟩
          · intro vals W hW hw hd
            try simp [Region.binds] at hd
            refine .inl ⟨by first | rfl | simp [Region.wanted, yielded, hd], ?_⟩
            simp [go_sem, hd]
            exact Below.refl _ _
          · intro vals W hW hw hd
            try simp [Region.binds] at hd
            refine .inl ⟨by first | rfl | simp [Region.wanted, yielded, hd], ?_⟩
            simp [go_sem, hd]
            exact Below.refl _ _
          · intro vals W hW hw hd
            try simp [Region.binds] at hd
            refine .inl ⟨by first | rfl | simp [Region.wanted, yielded, hd], ?_⟩
            simp [go_sem, hd, i0, i1]
            exact Below.refl _ _
          · intro vals W hW hw hd
            try simp [Region.binds] at hd
            refine .inl ⟨by first | rfl | simp [Region.wanted, yielded, hd], ?_⟩
            simp [go_sem, hd]
            exact Below.refl _ _
          · intro vals W hW hw hd
            try simp [Region.binds] at hd
            refine .inl ⟨by first | rfl | simp [Region.wanted, yielded, hd], ?_⟩
            have u0 := (EX.out.up hW.out).1
            simp [go_sem, hd, u0]
            exact Below.refl _ _
          · intro vals W hW hw hd
            try simp [Region.binds] at hd
            refine .inl ⟨by first | rfl | simp [Region.wanted, yielded, hd], ?_⟩
            simp [go_sem, hd]
            exact Below.refl _ _
          · intro vals W hW hw hd
            try simp [Region.binds] at hd
            refine .inl ⟨by first | rfl | simp [Region.wanted, yielded, hd], ?_⟩
            simp [go_sem, hd]
            exact Below.refl _ _
          · intro vals W hW hw hd
            try simp [Region.binds] at hd
            refine .inl ⟨by first | rfl | simp [Region.wanted, yielded, hd], ?_⟩
            simp [go_sem, hd, i0, i1]
            exact Below.refl _ _
          · intro vals W hW hw hd
            try simp [Region.binds] at hd
            refine .inl ⟨by first | rfl | simp [Region.wanted, yielded, hd], ?_⟩
            simp [go_sem, hd]
            exact Below.refl _ _
          · intro vals W hW hw hd
            try simp [Region.binds] at hd
            refine .inl ⟨by first | rfl | simp [Region.wanted, yielded, hd], ?_⟩
            have u0 := (EY.out.up hW.out).1
            simp [go_sem, hd, u0]
            exact Below.refl _ _
          · intro vals W hW hw hd
            try simp [Region.binds] at hd
            refine .inl ⟨by first | rfl | simp [Region.wanted, yielded, hd], ?_⟩
            simp [go_sem, hd, hk']
            exact Below.refl _ _
          · intro vals W hW hw hd
            try simp [Region.binds] at hd
            refine .inl ⟨by first | rfl | simp [Region.wanted, yielded, hd], ?_⟩
            simp [go_sem, hd]
            exact Below.refl _ _
          · intro vals W hW hw hd
            try simp [Region.binds] at hd
            exact .inr ⟨by simp [Region.wanted, yielded, hd], rfl⟩
          · intro vals W hW hw hd
            try simp [Region.binds] at hd
            exact .inr ⟨by simp [Region.wanted, yielded, hd], rfl⟩
          · intro vals W hW hw hd
            try simp [Region.binds] at hd
            exact .inr ⟨by simp [Region.wanted, yielded, hd], rfl⟩
          · intro vals W hW hw hd
            try simp [Region.binds] at hd
            exact .inr ⟨by simp [Region.wanted, yielded, hd], rfl⟩
          · intro vals W hW hw hd
            try simp [Region.binds] at hd
            exact .inr ⟨by simp [Region.wanted, yielded, hd], rfl⟩
          · intro vals W hW hw hd
            try simp [Region.binds] at hd
            exact .inr ⟨by simp [Region.wanted, yielded, hd], rfl⟩
          · intro vals W hW hw hd
            try simp [Region.binds] at hd
            exact .inr ⟨by simp [Region.wanted, yielded, hd], rfl⟩
          · intro vals W hW hw hd
            try simp [Region.binds] at hd
            exact .inr ⟨by simp [Region.wanted, yielded, hd], rfl⟩
          · intro vals W hW hw hd
            try simp [Region.binds] at hd
            exact .inr ⟨by simp [Region.wanted, yielded, hd], rfl⟩
          · intro vals W hW hw hd
            try simp [Region.binds] at hd
            exact .inr ⟨by simp [Region.wanted, yielded, hd], rfl⟩
          · intro vals W hW hw hd
            try simp [Region.binds] at hd
            exact .inr ⟨by simp [Region.wanted, yielded, hd], rfl⟩
          · intro vals W hW hw hd
            try simp [Region.binds] at hd
            exact .inr ⟨by simp [Region.wanted, yielded, hd], rfl⟩
          · intro vals W hW hw hd
            try simp [Region.binds] at hd
            exact .inr ⟨by simp [Region.wanted, yielded, hd], rfl⟩
          · intro vals W hW hw hd
            try simp [Region.binds] at hd
            refine .inl ⟨by first | rfl | simp [Region.wanted, yielded, hd], ?_⟩
            simp [go_sem, hd]
            exact Below.refl _ _
        obtain ⟨f0, f1, f2, f3, f4, f5, f6, f7, f8, f9, f10, f11, f12, f13, f14, f15, f16, f17, f18, f19, f20, f21, f22, f23, f24, f25, _⟩ := hF
        simp only [MP.eq_p] at f0 f1 f2 f3 f4 f5 f6 f7 f8 f9 f10 f11 f12 f13 f14 f15 f16 f17 f18 f19 f20 f21 f22 f23 f24 f25
        have b2 : Hid (Below w.heap.size w w2) := bk.out.trans (hb2.out.mono bk.out.size)
        rw [f25]
        clear f0 f1 f2 f3 f4 f5 f6 f7 f8 f9 f10 f11 f12 f13 f14 f15 f16 f17 f18 f19 f20 f21 f22 f23 f24 f25 hb2 EX EY bk
        go_wp2_with fail
        go_ret
        exact ⟨⟨false, rfl, fun h => absurd h (by decide), fun h => absurd h ne.out⟩, b2.out⟩
    · have i1 : ¬ (j : Int) < (n : Int) := by omega
      have he : Hid (l = m) := List.ext_getElem? fun i => by
        by_cases hi : i < n
        · exact no.out i (by omega)
        · rw [List.getElem?_eq_none (by have := HN.out; omega), List.getElem?_eq_none (by have := HN.out; omega)]
      clear hlt hj
      go_wp2_with fail
      go_ret
      first | exact ⟨⟨true, rfl, fun _ => he.out, fun _ => rfl⟩, bk.out⟩ | exact ⟨.inr ⟨rfl, he.out⟩, bk.out⟩
theorem sameR_fun (l m : List Ar) (hs : l.length ≤ 4611686018427387904) (lo : ∀ x ∈ l, lowB x.v) (mo : ∀ x ∈ m, lowB x.v) (u v : Value) (w : World) (hu : Ats w u l) (hv : Ats w v m) :
    Calls Try.prog 18 #[u, v] w fun e w' => (∃ t : Bool, e = .returned (.bool t) ∧ (t = true ↔ l = m)) ∧ Below w.heap.size w w' := by
  obtain ⟨a, c, rfl⟩ := ats_parts hu
  obtain ⟨d, e, rfl⟩ := ats_parts hv
  by_cases hl : l.length = m.length
  · by_cases h0 : l.length = 0
    · have el := List.length_eq_zero_iff.1 h0
      have em := List.length_eq_zero_iff.1 (by omega : m.length = 0)
      subst el em
      exact (sameR_nil a d c e w).mono fun e w' ⟨he, hb⟩ => ⟨⟨true, he, fun _ => rfl, fun _ => rfl⟩, hb⟩
    · obtain ⟨b, o, rfl⟩ := hu.addr (by omega)
      obtain ⟨b', o', rfl⟩ := hv.addr (by omega)
      rw [← hl] at hv ⊢
      exact sameR_walk l m l.length rfl hl.symm hs lo mo b o c b' o' e w hu hv
  · exact (sameR_len a d _ _ c e hl w).mono fun e w' ⟨he, hb⟩ => ⟨⟨false, he, fun h => absurd h (by decide), fun h => absurd (congrArg List.length h) hl⟩, hb⟩
end Go.Proofs.Ytepaapiflkkghaa
