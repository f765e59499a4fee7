/- Texts that were joined: ShFt, ShC. -/
import Derived.Test.YtdcpicbkemmakaaQShAtToShF
import Derived.Test.YtdcpicbkemmakaaQUpVToOfB
import Derived.Test.YtdcpicbkemmakaaQUpA
/- What is wrong with shares, by their numbers. -/
namespace Go.Proofs.Ytdcpicbkemmakaa
open Go.RowKit
set_option linter.unusedSimpArgs false
/-- A share is refused: as such, or for one ahead of it. -/
def badAt (l : List Shr) (i : Nat) : Prop := ¬ shOk (l.getD i shr0) ∨ ∃ j, j < i ∧ (l.getD j shr0).x = (l.getD i shr0).x
/-- The same, told by trying. -/
def badB (l : List Shr) (i : Nat) : Bool := !decide ((1 ≤ (l.getD i shr0).x ∧ (l.getD i shr0).x ≤ 255) ∧ (l.getD i shr0).y.nat < Cv.ord) || (List.range i).any fun j => (l.getD j shr0).x == (l.getD i shr0).x
theorem badB_iff (l : List Shr) (i : Nat) : badB l i = true ↔ badAt l i := by
  unfold badB badAt shOk
  rw [Bool.or_eq_true, Bool.not_eq_true', decide_eq_false_iff_not, List.any_eq_true]
  constructor
  · rintro (h | ⟨j, hj, h⟩)
    · exact .inl h
    · exact .inr ⟨j, List.mem_range.1 hj, beq_iff_eq.1 h⟩
  · rintro (h | ⟨j, hj, h⟩)
    · exact .inl h
    · exact .inr ⟨j, List.mem_range.2 hj, beq_iff_eq.2 h⟩
/-- What is wrong with shares that are asked at x: 2 too many, 1 otherwise, 0 nothing. -/
def fltN (l : List Shr) (x : Int) : Nat := if 20 < l.length then 2 else if l.length = 0 ∨ x < 0 ∨ 255 < x then 1 else if (List.range l.length).any (badB l) = true then 1 else 0
theorem any_bad (l : List Shr) : (List.range l.length).any (badB l) = true ↔ ∃ i, i < l.length ∧ badAt l i := by
  rw [List.any_eq_true]
  constructor
  · rintro ⟨i, hi, h⟩
    exact ⟨i, List.mem_range.1 hi, (badB_iff l i).1 h⟩
  · rintro ⟨i, hi, h⟩
    exact ⟨i, List.mem_range.2 hi, (badB_iff l i).2 h⟩
theorem shs_parts {w : World} {v : Value} {l : List Shr} (h : Shs w v l) : ∃ a c, v = .slice a l.length c := by
  obtain ⟨a, c, e, -⟩ := h
  exact ⟨a, c, e⟩
theorem fault_fun (l : List Shr) (hl : ∀ s ∈ l, s.ok) (x : Int) (v : Value) (w : World) (hv : Shs w v l) :
    Calls Try.prog 5 #[v, .int .i64 x] w fun e w' => e = .returned (.int .i64 ((fltN l x : Nat) : Int)) ∧ Below w.heap.size w w' := by
  obtain ⟨a, cp, rfl, hc, hm⟩ := id hv
  unfold fltN
  by_cases h20 : 20 < l.length
  · rw [if_pos h20]
    exact fault_large a _ cp h20 x w
  rw [if_neg h20]
  by_cases h0 : l.length = 0
  · rw [if_pos (.inl h0), h0]
    exact fault_none a cp x w
  by_cases h1 : x < 0
  · rw [if_pos (.inr (.inl h1))]
    exact fault_less a _ cp (by omega) h0 x h1 w
  by_cases h2 : 255 < x
  · rw [if_pos (.inr (.inr h2))]
    exact fault_more a _ cp (by omega) h0 x h2 w
  rw [if_neg (by rintro (h | h | h) <;> contradiction)]
  obtain ⟨b, o, rfl, -⟩ := hm (by omega)
  have at_ : ∀ i, i < l.length → l[i]? = some ⟨(l.getD i shr0).x, shN l i⟩ ∧ (shN l i).ok := fun i hi => by
    have e : l.getD i shr0 = l[i] := by rw [List.getD_eq_getElem?_getD, List.getElem?_eq_getElem hi]; rfl
    unfold shN
    rw [e]
    exact ⟨List.getElem?_eq_getElem hi, (hl l[i] (List.getElem_mem hi)).2⟩
  have eq : ∀ i, i < l.length → (badS (fun i => (l.getD i shr0).x) (fun i => cmpN (shN l i).nat Cv.ord) i ↔ badAt l i) := fun i hi => by
    unfold badS badAt shOk
    have hc : (0 : Int) ≤ cmpN (shN l i).nat Cv.ord ↔ ¬ (l.getD i shr0).y.nat < Cv.ord := by
      show (0 : Int) ≤ cmpN (l.getD i shr0).y.nat Cv.ord ↔ _
      unfold cmpN
      split
      · exact ⟨fun h => absurd h (by decide), fun h => absurd ‹_› h⟩
      · split
        · exact ⟨fun _ => ‹_›, fun _ => by decide⟩
        · exact ⟨fun _ => ‹_›, fun _ => by decide⟩
    rw [hc]
    constructor
    · rintro (h | h | h | h)
      · exact .inl fun hh => by have := hh.1.1; have h : (l.getD i shr0).x < 1 := h; omega
      · exact .inl fun hh => by have := hh.1.2; have h : 255 < (l.getD i shr0).x := h; omega
      · exact .inl fun hh => h hh.2
      · exact .inr h
    · rintro (h | h)
      · by_cases g1 : (l.getD i shr0).x < 1
        · exact .inl g1
        by_cases g2 : 255 < (l.getD i shr0).x
        · exact .inr (.inl g2)
        exact .inr (.inr (.inl fun g3 => h ⟨⟨by omega, by omega⟩, g3⟩))
      · exact .inr (.inr (.inr h))
  refine fault_walk l.length b o cp Cv.ord x _ (by omega) (by omega) hc.1 (by omega) (by omega) (fun i => (l.getD i shr0).x) (shN l) (fun i => (shN l i).nat) (fun i => cmpN (shN l i).nat Cv.ord) w ?_ ?_ ?_ ?_ prime_fun ?_
  · intro W hW i hi
    obtain ⟨a', c', e, -, h⟩ := hv.up (hW.mono (Nat.le_refl _))
    cases e
    obtain ⟨b', o', e, h⟩ := h (by omega)
    cases e
    exact h i _ (at_ i hi).1
  · rintro ⟨i, hi, hb⟩
    rw [if_pos ((any_bad l).2 ⟨i, hi, (eq i hi).1 hb⟩)]
    rfl
  · intro h
    rw [if_neg fun hh => by
      obtain ⟨i, hi, hb⟩ := (any_bad l).1 hh
      exact h i hi ((eq i hi).2 hb)]
    rfl
  · intro i hi W
    exact ofNum_fun (shN l i) (at_ i hi).2 W
  · intro i hi u v W su sv
    exact order_n _ _ (Nat.lt_trans (Nm.nat_lt (at_ i hi).2) (by decide)) (by decide) u v W su sv
end Go.Proofs.Ytdcpicbkemmakaa

/- What package share must keep of At, and ShareTells out of it. -/
namespace Go.Proofs.Ytdcpicbkemmakaa
open Go.RowKit
attribute [local go_sem] World.cell?_alloc_some cell_alloc2 cell_alloc3 cell_alloc4 frozen?_alloc_cells frozen_out
set_option linter.unusedSimpArgs false
/-- What At answers. -/
def atM (l : List Shr) (x : Int) : Nm := if fltN l x = 0 then nm (atN l x.toNat) else ⟨0, 0, 0, 0⟩
def AtC : Prop := ∀ (l : List Shr), (∀ s ∈ l, s.ok) → ∀ x : Int, -9223372036854775808 ≤ x ∧ x ≤ 9223372036854775807 → ∀ v w, Shs w v l → Calls Try.prog 6 #[v, .int .i64 x] w fun e w' => e = .returned (.tuple #[N (atM l x), .int .i64 ((fltN l x : Nat) : Int)]) ∧ Below w.heap.size w w'
theorem flt_good {l : List Shr} {x : Int} (h : fltN l x = 0) : 0 < l.length ∧ l.length ≤ 20 ∧ 0 ≤ x ∧ x ≤ 255 ∧ ∀ i, i < l.length → ¬ badAt l i := by
  unfold fltN at h
  split at h
  · cases h
  split at h
  · cases h
  split at h
  · cases h
  rename_i h1 h2 h3
  refine ⟨by omega, by omega, by omega, by omega, fun i hi hb => h3 ((any_bad l).2 ⟨i, hi, hb⟩)⟩
theorem good_ok {l : List Shr} {x : Int} (h : fltN l x = 0) : ∀ s ∈ l, shOk s := fun s hs => by
  obtain ⟨i, hi, rfl⟩ := List.getElem_of_mem hs
  have := (flt_good h).2.2.2.2 i hi
  unfold badAt at this
  have e : l.getD i shr0 = l[i] := by rw [List.getD_eq_getElem?_getD, List.getElem?_eq_getElem hi]; rfl
  rw [e] at this
  exact Classical.byContradiction fun hh => this (.inl hh)
set_option maxHeartbeats 1000000 in
theorem shTells_bad (l : List Shr) (n : Nat) (a : Option Addr) (cp : Nat) (x f : Int) (hf : (f == 0) = false) (w : World) (hv : Shs w (.slice a n cp) l)
    (ez : ∀ w, (binOp .eql 27 (N ⟨0, 0, 0, 0⟩) (N ⟨0, 0, 0, 0⟩)).run Try.prog w = .ok (.bool true) w)
    (FA : ∀ W, Shs W (.slice a n cp) l → Calls Try.prog 5 #[.slice a n cp, .int .i64 x] W fun e w' => e = .returned (.int .i64 f) ∧ Below W.heap.size W w')
    (AT : ∀ W, Shs W (.slice a n cp) l → Calls Try.prog 6 #[.slice a n cp, .int .i64 x] W fun e w' => e = .returned (.tuple #[N ⟨0, 0, 0, 0⟩, .int .i64 f]) ∧ Below W.heap.size W w') :
    Calls Try.prog 3 #[.slice a n cp, .int .i64 x] w fun e w' => e = .returned (.bool true) ∧ Below w.heap.size w w' := by
  have HV : Hid (Shs w (.slice a n cp) l) := hv
  clear hv
  have hf' : (f != 0) = true := by rw [bne, hf]; rfl
  go_enter Try.func3, Try.ntmps3
  have s0 : Hid (Kn w []) := (Kn.nil w)
  have b0 : Hid (Below w.heap.size w w) := (Below.refl _ _)
  go_wp2_with fail
  refine (FA _ HV.out).mono ?_
  rintro e w1 ⟨rfl, hb1⟩
  have s1 : Hid (Kn w1 []) := s0.out.up hb1
  have b1 : Hid (Below w.heap.size w w1) := b0.out.trans (hb1.mono b0.out.size)
  have z1 := b1.out.size
  clear hb1 s0 b0
  go_wp2_with fail
  refine (AT _ (HV.out.up b1.out)).mono ?_
  rintro e w2 ⟨rfl, hb2⟩
  have s2 : Hid (Kn w2 []) := s1.out.up hb2
  have b2 : Hid (Below w.heap.size w w2) := b1.out.trans (hb2.mono b1.out.size)
  have z2 := b2.out.size
  clear hb2 s1 b1
  have s3 : Hid (Kn (kal4 w2 ((⟨0,0,0,0⟩:Nm))) [(w2.heap.size, (c4 ((⟨0,0,0,0⟩:Nm))))]) := s2.out.al (c4 ((⟨0,0,0,0⟩:Nm))) 27 rfl
  have b3 : Hid (Below w.heap.size w (kal4 w2 ((⟨0,0,0,0⟩:Nm)))) := b2.out.alloc b2.out.size _
  have z3 := b2.out.size
  clear s2 b2
  have uy_0 : (kal4 w2 ((⟨0,0,0,0⟩:Nm))).cell? ⟨w2.heap.size, 0, none⟩ = some (.int .u64 ((⟨0,0,0,0⟩:Nm)).a) := Kn.get s3.out 0 0 rfl rfl
  have uy_1 : (kal4 w2 ((⟨0,0,0,0⟩:Nm))).cell? ⟨w2.heap.size, 1, none⟩ = some (.int .u64 ((⟨0,0,0,0⟩:Nm)).b) := Kn.get s3.out 0 1 rfl rfl
  have uy_2 : (kal4 w2 ((⟨0,0,0,0⟩:Nm))).cell? ⟨w2.heap.size, 2, none⟩ = some (.int .u64 ((⟨0,0,0,0⟩:Nm)).c) := Kn.get s3.out 0 2 rfl rfl
  have uy_3 : (kal4 w2 ((⟨0,0,0,0⟩:Nm))).cell? ⟨w2.heap.size, 3, none⟩ = some (.int .u64 ((⟨0,0,0,0⟩:Nm)).d) := Kn.get s3.out 0 3 rfl rfl
  go_wp2_with fail
  clear uy_0 uy_1 uy_2 uy_3
  go_ret
  exact ⟨rfl, b3.out⟩
set_option maxHeartbeats 1000000 in
theorem shTells_many (l : List Shr) (n : Nat) (hn : 6 < n) (a : Option Addr) (cp : Nat) (x : Int) (w : World) (hv : Shs w (.slice a n cp) l)
    (FA : ∀ W, Shs W (.slice a n cp) l → Calls Try.prog 5 #[.slice a n cp, .int .i64 x] W fun e w' => e = .returned (.int .i64 0) ∧ Below W.heap.size W w') :
    Calls Try.prog 3 #[.slice a n cp, .int .i64 x] w fun e w' => e = .returned (.bool true) ∧ Below w.heap.size w w' := by
  have HV : Hid (Shs w (.slice a n cp) l) := hv
  have g : (n : Int) > 6 := by omega
  clear hv hn
  go_enter Try.func3, Try.ntmps3
  have s0 : Hid (Kn w []) := (Kn.nil w)
  have b0 : Hid (Below w.heap.size w w) := (Below.refl _ _)
  go_wp2_with fail
  refine (FA _ HV.out).mono ?_
  rintro e w1 ⟨rfl, hb1⟩
  have s1 : Hid (Kn w1 []) := s0.out.up hb1
  have b1 : Hid (Below w.heap.size w w1) := b0.out.trans (hb1.mono b0.out.size)
  have z1 := b1.out.size
  clear hb1 s0 b0
  go_wp2_with fail
  go_ret
  exact ⟨rfl, b1.out⟩
set_option maxHeartbeats 1000000 in
theorem shTells_good (l : List Shr) (n : Nat) (hn : n ≤ 6) (a : Option Addr) (cp : Nat) (x : Int) (y : Nm) (w : World) (hv : Shs w (.slice a n cp) l)
    (ey : ∀ w, (binOp .eql 27 (N y) (N y)).run Try.prog w = .ok (.bool true) w)
    (FA : ∀ W, Shs W (.slice a n cp) l → Calls Try.prog 5 #[.slice a n cp, .int .i64 x] W fun e w' => e = .returned (.int .i64 0) ∧ Below W.heap.size W w')
    (AT : ∀ W, Shs W (.slice a n cp) l → Calls Try.prog 6 #[.slice a n cp, .int .i64 x] W fun e w' => e = .returned (.tuple #[N y, .int .i64 0]) ∧ Below W.heap.size W w')
    (SA : ∀ W, Shs W (.slice a n cp) l → Calls Try.prog 7 #[.slice a n cp, .int .i64 x] W fun e w' => e = .returned (N y) ∧ Below W.heap.size W w') :
    Calls Try.prog 3 #[.slice a n cp, .int .i64 x] w fun e w' => e = .returned (.bool true) ∧ Below w.heap.size w w' := by
  have HV : Hid (Shs w (.slice a n cp) l) := hv
  have g : ¬ (n : Int) > 6 := by omega
  clear hv hn
  go_enter Try.func3, Try.ntmps3
  have s0 : Hid (Kn w []) := (Kn.nil w)
  have b0 : Hid (Below w.heap.size w w) := (Below.refl _ _)
  go_wp2_with fail
  refine (FA _ HV.out).mono ?_
  rintro e w1 ⟨rfl, hb1⟩
  have s1 : Hid (Kn w1 []) := s0.out.up hb1
  have b1 : Hid (Below w.heap.size w w1) := b0.out.trans (hb1.mono b0.out.size)
  have z1 := b1.out.size
  clear hb1 s0 b0
  go_wp2_with fail
  refine (AT _ (HV.out.up b1.out)).mono ?_
  rintro e w2 ⟨rfl, hb2⟩
  have s2 : Hid (Kn w2 []) := s1.out.up hb2
  have b2 : Hid (Below w.heap.size w w2) := b1.out.trans (hb2.mono b1.out.size)
  have z2 := b2.out.size
  clear hb2 s1 b1
  have s3 : Hid (Kn (kal4 w2 (y)) [(w2.heap.size, (c4 (y)))]) := s2.out.al (c4 (y)) 27 rfl
  have b3 : Hid (Below w.heap.size w (kal4 w2 (y))) := b2.out.alloc b2.out.size _
  have z3 := b2.out.size
  clear s2 b2
  go_wp2_with fail
  refine wp_region_up (by kernel_rfl) (by kernel_rfl) (fun U hU f hf hcl => ?_)
  have uy_0 := fun nx => (Kn.get (s3.out.up (hf nx).out) 0 0 rfl rfl : (f nx).cell? ⟨w2.heap.size, 0, none⟩ = some (.int .u64 (y).a))
  have uy_1 := fun nx => (Kn.get (s3.out.up (hf nx).out) 0 1 rfl rfl : (f nx).cell? ⟨w2.heap.size, 1, none⟩ = some (.int .u64 (y).b))
  have uy_2 := fun nx => (Kn.get (s3.out.up (hf nx).out) 0 2 rfl rfl : (f nx).cell? ⟨w2.heap.size, 2, none⟩ = some (.int .u64 (y).c))
  have uy_3 := fun nx => (Kn.get (s3.out.up (hf nx).out) 0 3 rfl rfl : (f nx).cell? ⟨w2.heap.size, 3, none⟩ = some (.int .u64 (y).d))
  have SB := fun nx => SA (f nx) (HV.out.up (b3.out.trans ((hf nx).out.mono b3.out.size)))
  try simp only [List.append_eq, List.cons_append, List.nil_append]
  repeat (go_big_quiet_step (first | (go_at_call 7; exact (SB _).mono fun e w'' ⟨he, hb⟩ => ⟨he, hcl.out _ _ hb⟩)))
  refine wpQuiet_nil ?_
  intro nx
  have hb4 := (hf nx).out
  clear hf hcl uy_0 uy_1 uy_2 uy_3
  generalize f nx = w4 at hb4 ⊢
  have s4 : Hid (Kn w4 [(w2.heap.size, (c4 (y)))]) := s3.out.up hb4
  have b4 : Hid (Below w.heap.size w w4) := b3.out.trans (hb4.mono b3.out.size)
  have z4 := b4.out.size
  clear hb4 s3 b3
  go_wp2_with fail
  go_ret
  exact ⟨rfl, b4.out⟩
theorem shareTells_of (AT : AtC) (l : List Shr) (hl : ∀ s ∈ l, s.ok) (x : Int) (hx : -9223372036854775808 ≤ x ∧ x ≤ 9223372036854775807) (v : Value) (w : World) (hv : Shs w v l) :
    Calls Try.prog 3 #[v, .int .i64 x] w fun e w' => e = .returned (.bool true) ∧ Below w.heap.size w w' := by
  obtain ⟨a, cp, rfl⟩ := shs_parts hv
  have FA := fun W h => fault_fun l hl x (.slice a l.length cp) W h
  have A1 := fun W h => AT l hl x hx (.slice a l.length cp) W h
  by_cases h0 : fltN l x = 0
  · have hg := flt_good h0
    rw [h0] at FA A1
    by_cases h6 : 6 < l.length
    · exact shTells_many l _ h6 a cp x w hv FA
    have e : atM l x = nm (atN l x.toNat) := if_pos h0
    rw [e] at A1
    have SA : ∀ W, Shs W (.slice a l.length cp) l → Calls Try.prog 7 #[.slice a l.length cp, .int .i64 x] W fun e w' => e = .returned (N (nm (atN l x.toNat))) ∧ Below W.heap.size W w' := fun W h => by
      have := sharesAt_fun l hg.1 hg.2.1 (fun s hs => ⟨hl s hs, good_ok h0 s hs⟩) x.toNat (by omega) _ W h
      rwa [show ((x.toNat : Nat) : Int) = x by omega] at this
    exact shTells_good l _ (by omega) a cp x _ w hv (fun w => by rw [eqN, Nm.beq_self]) FA A1 SA
  · have e : atM l x = ⟨0, 0, 0, 0⟩ := if_neg h0
    rw [e] at A1
    exact shTells_bad l _ a cp x _ (by rw [beq_eq_false_iff_ne]; omega) w hv (fun w => by rw [eqN, Nm.beq_self]) FA A1
end Go.Proofs.Ytdcpicbkemmakaa
