/-
  Digests, seals, passwords' digests: numbers alone, no program.
-/
import Derived.Test.YtoagaddciapmkaaDoorXMath
import Derived.KernelRfl
namespace Go.Proofs.YtoagaddciapmkaaDoor

def M32 : Nat := 4294967296
/-- Turned right. -/
def turnR (x n : Nat) : Nat := (x >>> n) ||| ((x <<< (32 - n)) % M32)
def firstH : List Nat := [1779033703, 3144134277, 1013904242, 2773480762, 1359893119, 2600822924, 528734635, 1541459225]
def stepsK : List Nat := [1116352408, 1899447441, 3049323471, 3921009573, 961987163, 1508970993, 2453635748, 2870763221, 3624381080, 310598401, 607225278, 1426881987, 1925078388, 2162078206, 2614888103, 3248222580, 3835390401, 4022224774, 264347078, 604807628, 770255983, 1249150122, 1555081692, 1996064986, 2554220882, 2821834349, 2952996808, 3210313671, 3336571891, 3584528711, 113926993, 338241895, 666307205, 773529912, 1294757372, 1396182291, 1695183700, 1986661051, 2177026350, 2456956037, 2730485921, 2820302411, 3259730800, 3345764771, 3516065817, 3600352804, 4094571909, 275423344, 430227734, 506948616, 659060556, 883997877, 958139571, 1322822218, 1537002063, 1747873779, 1955562222, 2024104815, 2227730452, 2361852424, 2428436474, 2756734187, 3204031479, 3329325298]
def wordB (b : List Nat) (i : Nat) : Nat := ((b.getD i 0 * 256 + b.getD (i + 1) 0) * 256 + b.getD (i + 2) 0) * 256 + b.getD (i + 3) 0
/-- The word behind those that are there. -/
def moreW (w : List Nat) (i : Nat) : Nat :=
  let a := w.getD (i - 15) 0; let c := w.getD (i - 2) 0
  (w.getD (i - 16) 0 + (turnR a 7 ^^^ turnR a 18 ^^^ (a >>> 3)) + w.getD (i - 7) 0 + (turnR c 17 ^^^ turnR c 19 ^^^ (c >>> 10))) % M32
def wordsK (b : List Nat) : Nat → List Nat
  | 0 => []
  | k + 1 => let w := wordsK b k; w ++ [if k < 16 then wordB b (4 * k) else moreW w k]
structure W8 where
  a : Nat
  b : Nat
  c : Nat
  d : Nat
  e : Nat
  f : Nat
  g : Nat
  h : Nat
def of8 (l : List Nat) : W8 := ⟨l.getD 0 0, l.getD 1 0, l.getD 2 0, l.getD 3 0, l.getD 4 0, l.getD 5 0, l.getD 6 0, l.getD 7 0⟩
def to8 (x : W8) : List Nat := [x.a, x.b, x.c, x.d, x.e, x.f, x.g, x.h]
def step8 (x : W8) (k w : Nat) : W8 :=
  let t1 := (x.h + (turnR x.e 6 ^^^ turnR x.e 11 ^^^ turnR x.e 25) + ((x.e &&& x.f) ^^^ ((M32 - 1 - x.e) &&& x.g)) + k + w) % M32
  let t2 := ((turnR x.a 2 ^^^ turnR x.a 13 ^^^ turnR x.a 22) + ((x.a &&& x.b) ^^^ (x.a &&& x.c) ^^^ (x.b &&& x.c))) % M32
  ⟨(t1 + t2) % M32, x.a, x.b, x.c, (x.d + t1) % M32, x.e, x.f, x.g⟩
def stepsN (x : W8) : List (Nat × Nat) → W8
  | [] => x
  | p :: l => stepsN (step8 x p.1 p.2) l
def roundN (h : List Nat) (b : List Nat) : List Nat := (h.zip (to8 (stepsN (of8 h) (stepsK.zip (wordsK b 64))))).map fun p => (p.1 + p.2) % M32
def be8 (n : Nat) : List Nat := (List.range 8).map fun i => n / 256 ^ (7 - i) % 256
def longerN (b : List Nat) : List Nat := b ++ 128 :: List.replicate ((119 - b.length % 64) % 64) 0 ++ be8 (b.length * 8)
def roundsN (h : List Nat) (all : List Nat) : Nat → List Nat
  | 0 => h
  | k + 1 => roundN (roundsN h all k) ((all.drop (k * 64)).take 64)
def be4 (n : Nat) : List Nat := [n / 16777216 % 256, n / 65536 % 256, n / 256 % 256, n % 256]
def digN (b : List Nat) : List Nat := (roundsN firstH (longerN b) ((longerN b).length / 64)).flatMap be4
def keyN (s : List Nat) : List Nat := let k := if 64 < s.length then digN s else s; k ++ List.replicate (64 - k.length) 0
def sealN (s b : List Nat) : List Nat := digN ((keyN s).map (· ^^^ 92) ++ digN ((keyN s).map (· ^^^ 54) ++ b))
def passN (s b : List Nat) : Nat → List Nat
  | 0 => b
  | k + 1 => sealN s (passN s b k)
theorem dig_abc : hexN (digN [97, 98, 99]) = [98, 97, 55, 56, 49, 54, 98, 102, 56, 102, 48, 49, 99, 102, 101, 97, 52, 49, 52, 49, 52, 48, 100, 101, 53, 100, 97, 101, 50, 50, 50, 51, 98, 48, 48, 51, 54, 49, 97, 51, 57, 54, 49, 55, 55, 97, 57, 99, 98, 52, 49, 48, 102, 102, 54, 49, 102, 50, 48, 48, 49, 53, 97, 100] := by kernel_rfl
theorem dig_none : hexN (digN []) = [101, 51, 98, 48, 99, 52, 52, 50, 57, 56, 102, 99, 49, 99, 49, 52, 57, 97, 102, 98, 102, 52, 99, 56, 57, 57, 54, 102, 98, 57, 50, 52, 50, 55, 97, 101, 52, 49, 101, 52, 54, 52, 57, 98, 57, 51, 52, 99, 97, 52, 57, 53, 57, 57, 49, 98, 55, 56, 53, 50, 98, 56, 53, 53] := by kernel_rfl
end Go.Proofs.YtoagaddciapmkaaDoor
