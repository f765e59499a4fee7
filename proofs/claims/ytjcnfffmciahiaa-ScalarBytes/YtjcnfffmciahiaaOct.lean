/- Eight bytes as a word, the least first: no program in sight. -/
import Derived.Test.YtjcnfffmciahiaaNum
namespace Go.Proofs.Ytjcnfffmciahiaa
open Go.RowKit

structure Oct where
  a : Int
  b : Int
  c : Int
  d : Int
  e : Int
  f : Int
  g : Int
  i : Int
def Byte (x : Int) : Prop := 0 ≤ x ∧ x < 256
structure Oct.ok (p : Oct) : Prop where
  a : Byte p.a
  b : Byte p.b
  c : Byte p.c
  d : Byte p.d
  e : Byte p.e
  f : Byte p.f
  g : Byte p.g
  i : Byte p.i
def Oct.val (p : Oct) : Int := p.a + 256 * p.b + 65536 * p.c + 16777216 * p.d + 4294967296 * p.e + 1099511627776 * p.f + 281474976710656 * p.g + 72057594037927936 * p.i
def Oct.of (n : Int) : Oct := ⟨n % 256, n / 256 % 256, n / 65536 % 256, n / 16777216 % 256, n / 4294967296 % 256, n / 1099511627776 % 256, n / 281474976710656 % 256, n / 72057594037927936 % 256⟩
/-- Thirty-two bytes. -/
abbrev Bv (p q r s : Oct) : Value := .agg #[.int .u8 p.a, .int .u8 p.b, .int .u8 p.c, .int .u8 p.d, .int .u8 p.e, .int .u8 p.f, .int .u8 p.g, .int .u8 p.i, .int .u8 q.a, .int .u8 q.b, .int .u8 q.c, .int .u8 q.d, .int .u8 q.e, .int .u8 q.f, .int .u8 q.g, .int .u8 q.i, .int .u8 r.a, .int .u8 r.b, .int .u8 r.c, .int .u8 r.d, .int .u8 r.e, .int .u8 r.f, .int .u8 r.g, .int .u8 r.i, .int .u8 s.a, .int .u8 s.b, .int .u8 s.c, .int .u8 s.d, .int .u8 s.e, .int .u8 s.f, .int .u8 s.g, .int .u8 s.i]
theorem Oct.of_ok (n : Int) : (Oct.of n).ok := by
  refine ⟨⟨?_, ?_⟩, ⟨?_, ?_⟩, ⟨?_, ?_⟩, ⟨?_, ?_⟩, ⟨?_, ?_⟩, ⟨?_, ?_⟩, ⟨?_, ?_⟩, ⟨?_, ?_⟩⟩ <;> simp only [Oct.of] <;> omega
theorem Oct.of_val {n : Int} (h : Word n) : (Oct.of n).val = n := by
  obtain ⟨h0, h1⟩ := h
  simp only [Oct.of, Oct.val]
  omega
theorem Oct.val_of {p : Oct} (h : p.ok) : Oct.of p.val = p := by
  obtain ⟨⟨_, _⟩, ⟨_, _⟩, ⟨_, _⟩, ⟨_, _⟩, ⟨_, _⟩, ⟨_, _⟩, ⟨_, _⟩, ⟨_, _⟩⟩ := h
  obtain ⟨a, b, c, d, e, f, g, i⟩ := p
  simp only [Oct.of, Oct.val, Oct.mk.injEq] at *
  refine ⟨?_, ?_, ?_, ?_, ?_, ?_, ?_, ?_⟩ <;> omega
theorem Oct.val_word {p : Oct} (h : p.ok) : Word p.val := by
  obtain ⟨⟨_, _⟩, ⟨_, _⟩, ⟨_, _⟩, ⟨_, _⟩, ⟨_, _⟩, ⟨_, _⟩, ⟨_, _⟩, ⟨_, _⟩⟩ := h
  unfold Oct.val
  exact ⟨by omega, by omega⟩
end Go.Proofs.Ytjcnfffmciahiaa
