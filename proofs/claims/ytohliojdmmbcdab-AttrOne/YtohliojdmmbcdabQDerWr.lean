/- The contract of der.Write. -/
import Derived.Test.YtohliojdmmbcdabQDerW
namespace Go.Proofs.Ytohliojdmmbcdab
open Go.RowKit
def okIts (l : List It) : Prop := l.length ≤ 200 ∧ ∀ x ∈ l, x.body.length ≤ 4096
theorem By.len {w : World} {v : Value} {xs : List Nat} (h : By w v xs) : ∃ a c, v = .slice a xs.length c := by
  obtain ⟨a, c, e, _⟩ := h
  exact ⟨a, c, e⟩
/-- The block of an item's variable is none of the bytes'. -/
theorem Ob.ne_item {w : World} {B : Nat} {v : Value} {xs : List Nat} (h : Ob w B v xs) {k : Nat} {cs : Array Value} (hk : w.heap[k]? = some (.cells cs 35 (0, 0))) : some k ≠ v.ownBlock := by
  intro e
  obtain ⟨cur, hc⟩ := h.obj e.symm
  rw [hk] at hc
  simp at hc
theorem item_cells {w : World} {k t : Nat} {p q : Value} {f : Nat × Nat} (h : w.heap[k]? = some (.cells #[p, q] t f)) : w.cell? ⟨k, 0, none⟩ = some p ∧ w.cell? ⟨k, 1, none⟩ = some q := by simp [World.cell?, h]
theorem Ob.ne_new {w : World} {B : Nat} {v : Value} {xs : List Nat} (h : Ob w B v xs) : some w.heap.size ≠ v.ownBlock := by
  intro e
  have := (h.lt _ e.symm).2
  omega
theorem heap_new2 (w : World) (o o' : Obj) : ((w.alloc o).alloc o').heap[w.heap.size]? = some o := by
  rw [(World.grownBy_alloc (w.alloc o) o' none).block _ (by simp) (by simp)]
  exact heap_alloc_new w o
theorem Ob.below {w w' : World} {B : Nat} {v : Value} {xs : List Nat} (h : Ob w B v xs) (hg : w.grownBy w' v.ownBlock) (hB : B ≤ w.heap.size) : Below B w w' :=
  Below.grown (Below.refl _ _) hg hB fun k hk => (h.lt k hk).1
set_option maxRecDepth 20000 in
set_option maxHeartbeats 2000000 in
theorem write_some (l : List It) (b0 o0 c : Nat) (h200 : l.length ≤ 200) (w : World)
    (hc : ∀ j x, l[j]? = some x → w.cell? ⟨b0, o0 + j * 2, none⟩ = some (b8 x.tag) ∧ ∃ u, w.cell? ⟨b0, o0 + j * 2 + 1, none⟩ = some u ∧ By w u x.body) :
    Calls Try.prog 12 #[.slice (some ⟨b0, o0, none⟩) l.length c] w fun e w' => ((∀ x ∈ l, x.body.length ≤ 4096) ∧ (∃ u, e = .returned (.tuple #[u, .int .i64 0]) ∧ Ob w' w.heap.size u (texts l)) ∨ ¬ (∀ x ∈ l, x.body.length ≤ 4096) ∧ e = .returned (.tuple #[.slice none 0 0, .int .i64 2])) ∧ Below w.heap.size w w' := by
  have HC : Hid _ := hc
  clear hc
  have i2 : ¬ (l.length : Int) > 200 := by omega
  go_enter Try.func12, Try.ntmps12
  go_wp2_with fail
  go_loopw [4, 12] (fun b i wr => ∃ (k : Nat), k ≤ l.length ∧ i = .int .i64 k ∧ Hid (∀ x ∈ l.take k, x.body.length ≤ 4096) ∧ Hid (Ob wr w.heap.size b (texts (l.take k))) ∧ Hid (Below w.heap.size w wr)) (fun _ i _ => l.length - (intOf i).toNat)
  case atStart => exact ⟨0, by omega, rfl, (by simp : ∀ x ∈ l.take 0, x.body.length ≤ 4096), (by simpa [texts] using Ob.nil w w.heap.size : Ob w w.heap.size _ (texts (l.take 0))), Below.refl _ _⟩
  case round =>
    obtain ⟨k, hk, rfl, hle, ho, hb⟩ := hrel
    by_cases h1 : k < l.length
    · have i1 : (k : Int) < (l.length : Int) := by omega
      obtain ⟨x, hx⟩ : ∃ x, l[k]? = some x := ⟨l[k], by simp [h1]⟩
      obtain ⟨c1, u, c2, hu⟩ := HC.out k x hx
      obtain ⟨au, cu, rfl⟩ := hu.len
      have d1 := (hb.out.cell (p := ⟨b0, _, none⟩) (lt_of_cellB c1)).trans c1
      have d2 := (hb.out.cell (p := ⟨b0, _, none⟩) (lt_of_cellB c2)).trans c2
      have HU : Hid (By w _ x.body) := hu
      have HXX : Hid _ := hx
      clear hu hx c1 c2
      by_cases h3 : x.body.length ≤ 4096
      · have i3 : ¬ (x.body.length : Int) > 4096 := by omega
        have HT : Hid ((texts (l.take k)).length ≤ 820000) := by
          have h5 := texts_len (l.take k) hle.out
          have h6 : (l.take k).length ≤ 200 := by rw [List.length_take]; omega
          exact (by omega : (texts (l.take k)).length ≤ 820000)
        go_wp2_with (at_builtin; refine wp_appB rfl _ _ rfl w.heap.size _ _ (texts (l.take k)) [x.tag] wr rfl ho.out (((Below.refl _ _).alloc (Nat.le_refl _) _).alloc (by simp) _) rfl (By.one (by simp [b8])) (by have := HT.out; simp; omega) hb.out.size ?_)
        intro v1 w1 o1 g1 b1
        have XB : Hid _ := (g1.block wr.heap.size (by simp; omega) ho.out.ne_new).trans (heap_new2 wr _ _)
        obtain ⟨f0, f1⟩ := item_cells XB.out
        have O1 : Hid (Ob w1 w.heap.size v1 (texts (l.take k) ++ [x.tag])) := o1
        have B1 : Hid (Below w.heap.size w w1) := hb.out.trans b1
        clear o1 g1 b1 ho hb d1 d2
        go_wp2_with fail
        refine (appendLength_fun w.heap.size _ _ x.body.length (by omega) (by have := HT.out; simp; omega) w1 O1.out B1.out.size).mono ?_
        rintro e w2 ⟨v2, rfl, o2, g2⟩
        have B2 : Hid (Below w.heap.size w w2) := B1.out.trans (O1.out.below g2 B1.out.size)
        have XB2 : Hid _ := (g2.block wr.heap.size (Array.getElem?_eq_some_iff.1 XB.out).1 (O1.out.ne_item XB.out)).trans XB.out
        obtain ⟨f2, f3⟩ := item_cells XB2.out
        have O2 : Hid (Ob w2 w.heap.size v2 (texts (l.take k) ++ [x.tag] ++ lenB x.body.length)) := o2
        clear o2 g2 f0 f1 O1 XB
        have HL := lenB_len x.body.length
        go_wp2_with (at_builtin; refine wp_appB rfl _ _ rfl w.heap.size _ _ _ x.body w2 rfl O2.out (Below.refl _ _) rfl (HU.out.up B2.out (Nat.le_refl _)) (by have := HT.out; simp; omega) B2.out.size ?_)
        intro v3 w3 o3 g3 b3
        have O3 : Hid (Ob w3 w.heap.size v3 (texts (l.take k) ++ x.text)) := (by simpa [It.text] using o3 : Ob w3 w.heap.size v3 (texts (l.take k) ++ x.text))
        have B3 : Hid (Below w.heap.size w w3) := B2.out.trans b3
        clear o3 g3 b3 B2 O2 XB2 f2 f3 HL
        go_wp2_with fail
        go_roundw
        case rel =>
          refine ⟨k + 1, by omega, by go_num, ?_, ?_, B3⟩
          · refine (fun y hy => ?_ : ∀ y ∈ l.take (k + 1), y.body.length ≤ 4096)
            rw [List.take_add_one, HXX.out] at hy
            rcases List.mem_append.1 hy with hy | hy
            · exact hle.out y hy
            · obtain rfl : y = x := by simpa using hy
              exact h3
          · have e := texts_take_succ HXX.out
            rw [e]
            exact O3
        case measure => simp [intOf]; omega
      · have i3 : (x.body.length : Int) > 4096 := by omega
        go_wp2_with fail
        go_ret2
        refine ⟨.inr ⟨fun h => h3 (h x (List.mem_of_getElem? HXX.out)), rfl⟩, hb.out.alloc hb.out.size _⟩
    · have i1 : ¬ (k : Int) < (l.length : Int) := by omega
      have e : k = l.length := by omega
      subst e
      have E : Hid (l.take l.length = l) := List.take_length
      rw [E.out] at hle ho
      go_wp2_with fail
      go_ret2
      exact ⟨.inl ⟨hle.out, _, rfl, ho.out⟩, hb.out⟩
set_option maxHeartbeats 1000000 in
theorem write_large (a : Option Addr) (n c : Nat) (h : 200 < n) (w : World) :
    Calls Try.prog 12 #[.slice a n c] w fun e w' => e = .returned (.tuple #[.slice none 0 0, .int .i64 2]) ∧ Below w.heap.size w w' := by
  have i2 : (n : Int) > 200 := by omega
  go_enter Try.func12, Try.ntmps12
  go_wp2_with fail
  go_ret2
  exact ⟨rfl, Below.refl _ _⟩
set_option maxHeartbeats 1000000 in
theorem write_none (a : Option Addr) (c : Nat) (w : World) :
    Calls Try.prog 12 #[.slice a 0 c] w fun e w' => e = .returned (.tuple #[.slice none 0 0, .int .i64 0]) ∧ Below w.heap.size w w' := by
  go_enter Try.func12, Try.ntmps12
  go_wp2_with fail
  refine wp_loop_rounds 1 ?_
  rw [rounds_succ]
  go_wp2_with fail
  go_ret2
  exact ⟨rfl, Below.refl _ _⟩
/-- der.Write: the items' texts; or too large. -/
theorem write_fun (v : Value) (l : List It) (w : World) (h : Its w v l) :
    Calls Try.prog 12 #[v] w fun e w' => (okIts l ∧ (∃ u, e = .returned (.tuple #[u, .int .i64 0]) ∧ Ob w' w.heap.size u (texts l)) ∨ ¬ okIts l ∧ e = .returned (.tuple #[.slice none 0 0, .int .i64 2])) ∧ Below w.heap.size w w' := by
  obtain ⟨a, c, rfl, h1, h2, h3⟩ := h
  by_cases h200 : l.length ≤ 200
  · cases l with
    | nil =>
      refine (write_none a c w).mono ?_
      rintro e w' ⟨rfl, hb⟩
      exact ⟨.inl ⟨⟨by simp, by simp⟩, _, rfl, Ob.nil _ _⟩, hb⟩
    | cons x l =>
      obtain ⟨b, o, rfl, hc⟩ := h3 (by simp)
      refine (write_some (x :: l) b o c h200 w hc).mono ?_
      rintro e w' ⟨he, hb⟩
      refine ⟨?_, hb⟩
      rcases he with ⟨ha, u, he⟩ | ⟨ha, he⟩
      · exact .inl ⟨⟨h200, ha⟩, u, he⟩
      · exact .inr ⟨fun h => ha h.2, he⟩
  · refine (write_large a l.length c (by omega) w).mono ?_
    rintro e w' ⟨rfl, hb⟩
    exact ⟨.inr ⟨fun h => h200 h.1, rfl⟩, hb⟩
theorem write_any (v : Value) (l : List It) (w : World) (h : Its w v l) :
    Calls Try.prog 12 #[v] w fun e w' => (∃ u n, e = .returned (.tuple #[u, .int .i64 n]) ∧ ((n = 0 ∧ okIts l ∧ By w' u (texts l)) ∨ (n = 2 ∧ ¬ okIts l ∧ u = .slice none 0 0))) ∧ Below w.heap.size w w' := by
  refine (write_fun v l w h).mono ?_
  rintro e w' ⟨he, hb⟩
  refine ⟨?_, hb⟩
  rcases he with ⟨hok, u, rfl, hu⟩ | ⟨hno, rfl⟩
  · exact ⟨u, 0, rfl, .inl ⟨rfl, hok, hu.by⟩⟩
  · exact ⟨_, 2, rfl, .inr ⟨rfl, hno, rfl⟩⟩
/-- One item in a slice. -/
theorem Its.one {w : World} {b : Nat} {x : It} {u : Value} (h0 : w.cell? ⟨b, 0, none⟩ = some (b8 x.tag)) (h1 : w.cell? ⟨b, 1, none⟩ = some u) (hb : By w u x.body) : Its w (.slice (some ⟨b, 0, none⟩) 1 1) [x] :=
  ⟨_, 1, rfl, Nat.le_refl _, (fun h => by cases h), fun _ => ⟨b, 0, rfl, fun j y hy => by
    match j, hy with
    | 0, hy =>
      obtain rfl : x = y := by simpa using hy
      exact ⟨by simpa using h0, u, by simpa using h1, hb⟩⟩⟩
end Go.Proofs.Ytohliojdmmbcdab
