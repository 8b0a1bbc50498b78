/- SHA-256 as a function of lists of bytes; of no program. -/
import Derived.Test.YtddcephegpmbbaaDoorRot
namespace Go.Proofs.YtddcephegpmbbaaDoor
open Go

/-- The round constants. -/
def shaK : List UInt32 := [1116352408, 1899447441, 3049323471, 3921009573, 961987163, 1508970993, 2453635748, 2870763221, 3624381080, 310598401, 607225278, 1426881987, 1925078388, 2162078206, 2614888103, 3248222580, 3835390401, 4022224774, 264347078, 604807628, 770255983, 1249150122, 1555081692, 1996064986, 2554220882, 2821834349, 2952996808, 3210313671, 3336571891, 3584528711, 113926993, 338241895, 666307205, 773529912, 1294757372, 1396182291, 1695183700, 1986661051, 2177026350, 2456956037, 2730485921, 2820302411, 3259730800, 3345764771, 3516065817, 3600352804, 4094571909, 275423344, 430227734, 506948616, 659060556, 883997877, 958139571, 1322822218, 1537002063, 1747873779, 1955562222, 2024104815, 2227730452, 2361852424, 2428436474, 2756734187, 3204031479, 3329325298]
/-- A state of eight words. -/
structure S8 where
  a : UInt32
  b : UInt32
  c : UInt32
  d : UInt32
  e : UInt32
  f : UInt32
  g : UInt32
  h : UInt32
/-- The first state. -/
def sha0 : S8 := ⟨1779033703, 3144134277, 1013904242, 2773480762, 1359893119, 2600822924, 528734635, 1541459225⟩
def big0 (x : UInt32) : UInt32 := rotr x 2 ^^^ rotr x 13 ^^^ rotr x 22
def big1 (x : UInt32) : UInt32 := rotr x 6 ^^^ rotr x 11 ^^^ rotr x 25
def small0 (x : UInt32) : UInt32 := rotr x 7 ^^^ rotr x 18 ^^^ x >>> 3
def small1 (x : UInt32) : UInt32 := rotr x 17 ^^^ rotr x 19 ^^^ x >>> 10
def ch (e f g : UInt32) : UInt32 := (e &&& f) ^^^ (~~~e &&& g)
def maj (a b c : UInt32) : UInt32 := (a &&& b) ^^^ (a &&& c) ^^^ (b &&& c)
/-- What a round adds. -/
def t1 (s : S8) (k w : UInt32) : UInt32 := s.h + big1 s.e + ch s.e s.f s.g + k + w
/-- One round. -/
def rnd (s : S8) (k w : UInt32) : S8 := ⟨t1 s k w + (big0 s.a + maj s.a s.b s.c), s.a, s.b, s.c, s.d + t1 s k w, s.e, s.f, s.g⟩
/-- Word number t of a block. -/
def wordAt (l : List UInt8) (t : Nat) : UInt32 := ((((l.getD (4 * t) 0).toUInt32 <<< 24 ||| (l.getD (4 * t + 1) 0).toUInt32 <<< 16) ||| (l.getD (4 * t + 2) 0).toUInt32 <<< 8) ||| (l.getD (4 * t + 3) 0).toUInt32)
/-- The word that follows n words. -/
def nextW (l : List UInt8) (W : List UInt32) (n : Nat) : UInt32 := if n < 16 then wordAt l n else small1 (W.getD (n - 2) 0) + W.getD (n - 7) 0 + small0 (W.getD (n - 15) 0) + W.getD (n - 16) 0
/-- The first n words of a block's schedule. -/
def sched (l : List UInt8) : Nat → List UInt32
  | 0 => []
  | n + 1 => sched l n ++ [nextW l (sched l n) n]
/-- The state behind n rounds over the words W. -/
def roundsTo (W : List UInt32) (s : S8) : Nat → S8
  | 0 => s
  | n + 1 => rnd (roundsTo W s n) (shaK.getD n 0) (W.getD n 0)
def add8 (s t : S8) : S8 := ⟨s.a + t.a, s.b + t.b, s.c + t.c, s.d + t.d, s.e + t.e, s.f + t.f, s.g + t.g, s.h + t.h⟩
/-- One block. -/
def blockP (s : S8) (l : List UInt8) : S8 := add8 s (roundsTo (sched l 64) s 64)
/-- n blocks of l. -/
def blocksP (l : List UInt8) (s : S8) : Nat → S8
  | 0 => s
  | n + 1 => blockP (blocksP l s n) ((l.drop (64 * n)).take 64)
/-- So many zeros behind the bit. -/
def zerosN (n : Nat) : Nat := (119 - n % 64) % 64
/-- The length in bits, eight bytes. -/
def lenL (n : Nat) : List UInt8 := (List.range 8).map fun i => UInt8.ofNat (8 * n / 2 ^ (56 - 8 * i))
/-- What is put behind n bytes. -/
def tailL (n : Nat) : List UInt8 := 128 :: (List.replicate (zerosN n) 0 ++ lenL n)
def padL (l : List UInt8) : List UInt8 := l ++ tailL l.length
def words8 (s : S8) : List UInt32 := [s.a, s.b, s.c, s.d, s.e, s.f, s.g, s.h]
/-- Byte number i of a state. -/
def outByte (s : S8) (i : Nat) : UInt8 := UInt8.ofNat ((words8 s).getD (i / 4) 0 >>> UInt32.ofNat (24 - 8 * (i % 4))).toNat
def outL (s : S8) : List UInt8 := (List.range 32).map (outByte s)
/-- The digest. -/
def shaL (l : List UInt8) : List UInt8 := outL (blocksP (padL l) sha0 ((padL l).length / 64))

theorem sha_abc : shaL [97, 98, 99] = [186, 120, 22, 191, 143, 1, 207, 234, 65, 65, 64, 222, 93, 174, 34, 35, 176, 3, 97, 163, 150, 23, 122, 156, 180, 16, 255, 97, 242, 0, 21, 173] := by decide +kernel
theorem sha_nil : shaL [] = [227, 176, 196, 66, 152, 252, 28, 20, 154, 251, 244, 200, 153, 111, 185, 36, 39, 174, 65, 228, 100, 155, 147, 76, 164, 149, 153, 27, 120, 82, 184, 85] := by decide +kernel
end Go.Proofs.YtddcephegpmbbaaDoor
