/-
  SHA-256 over numbers and lists of bytes, without the program.
-/
namespace Go.Proofs.YtnndifkilcommaaDoor.Sha

def rot (x k : Nat) : Nat := (x / 2 ^ k) ||| (x * 2 ^ (32 - k)) % 4294967296
def sE (x : Nat) : Nat := rot x 7 ^^^ rot x 18 ^^^ (x / 8)
def sL (x : Nat) : Nat := rot x 17 ^^^ rot x 19 ^^^ (x / 1024)
def bA (x : Nat) : Nat := rot x 2 ^^^ rot x 13 ^^^ rot x 22
def bE (x : Nat) : Nat := rot x 6 ^^^ rot x 11 ^^^ rot x 25
def ch (e f g : Nat) : Nat := (e &&& f) ||| ((4294967295 - e) &&& g)
def maj (a b c : Nat) : Nat := ((a &&& b) ||| (a &&& c)) ||| (b &&& c)
def byteAt (b : List UInt8) (i : Nat) : Nat := (b.getD i 0).toNat
def wordAt (b : List UInt8) (t : Nat) : Nat := byteAt b (4 * t) * 16777216 + byteAt b (4 * t + 1) * 65536 + byteAt b (4 * t + 2) * 256 + byteAt b (4 * t + 3)
def nextW (b : List UInt8) (l : List Nat) (t : Nat) : Nat :=
  if t < 16 then wordAt b t else (sL (l.getD (t - 2) 0) + l.getD (t - 7) 0 + sE (l.getD (t - 15) 0) + l.getD (t - 16) 0) % 4294967296
def sch (b : List UInt8) : Nat → List Nat
  | 0 => []
  | t + 1 => sch b t ++ [nextW b (sch b t) t]
def kTab : List Nat := [1116352408, 1899447441, 3049323471, 3921009573, 961987163, 1508970993, 2453635748, 2870763221, 3624381080, 310598401, 607225278, 1426881987, 1925078388, 2162078206, 2614888103, 3248222580, 3835390401, 4022224774, 264347078, 604807628, 770255983, 1249150122, 1555081692, 1996064986, 2554220882, 2821834349, 2952996808, 3210313671, 3336571891, 3584528711, 113926993, 338241895, 666307205, 773529912, 1294757372, 1396182291, 1695183700, 1986661051, 2177026350, 2456956037, 2730485921, 2820302411, 3259730800, 3345764771, 3516065817, 3600352804, 4094571909, 275423344, 430227734, 506948616, 659060556, 883997877, 958139571, 1322822218, 1537002063, 1747873779, 1955562222, 2024104815, 2227730452, 2361852424, 2428436474, 2756734187, 3204031479, 3329325298]
def kAt (t : Nat) : Nat := kTab.getD t 0
def iTab : List Nat := [1779033703, 3144134277, 1013904242, 2773480762, 1359893119, 2600822924, 528734635, 1541459225]
/-- Eight words. -/
structure St where
  a : Nat
  b : Nat
  c : Nat
  d : Nat
  e : Nat
  f : Nat
  g : Nat
  h : Nat
def tOne (k w : Nat) (u : St) : Nat := (u.h + bE u.e + ch u.e u.f u.g + k + w) % 4294967296
def tTwo (u : St) : Nat := (bA u.a + maj u.a u.b u.c) % 4294967296
def round (k w : Nat) (u : St) : St :=
  { a := (tOne k w u + tTwo u) % 4294967296, b := u.a, c := u.b, d := u.c, e := (u.d + tOne k w u) % 4294967296, f := u.e, g := u.f, h := u.g }
def rounds (l : List Nat) (v : St) : Nat → St
  | 0 => v
  | t + 1 => round (kAt t) (l.getD t 0) (rounds l v t)
def addSt (v u : St) : St :=
  { a := (v.a + u.a) % 4294967296, b := (v.b + u.b) % 4294967296, c := (v.c + u.c) % 4294967296, d := (v.d + u.d) % 4294967296, e := (v.e + u.e) % 4294967296, f := (v.f + u.f) % 4294967296, g := (v.g + u.g) % 4294967296, h := (v.h + u.h) % 4294967296 }
def blockSt (v : St) (b : List UInt8) : St := addSt v (rounds (sch b 64) v 64)
def initSt : St := ⟨1779033703, 3144134277, 1013904242, 2773480762, 1359893119, 2600822924, 528734635, 1541459225⟩
/-- The words behind the first n blocks. -/
def comp (m : List UInt8) : Nat → St
  | 0 => initSt
  | n + 1 => blockSt (comp m n) ((m.drop (64 * n)).take 64)
def byt (n : Nat) : UInt8 := UInt8.ofNat n
def lenBytes (n : Nat) : List UInt8 := [byt (n / 72057594037927936), byt (n / 281474976710656), byt (n / 1099511627776), byt (n / 4294967296), byt (n / 16777216), byt (n / 65536), byt (n / 256), byt n]
def padOf (n : Nat) : List UInt8 := 128 :: (List.replicate ((119 - n % 64) % 64) 0 ++ lenBytes (8 * n))
def padded (m : List UInt8) : List UInt8 := m ++ padOf m.length
def wordBytes (n : Nat) : List UInt8 := [byt (n / 16777216), byt (n / 65536), byt (n / 256), byt n]
def stBytes (u : St) : List UInt8 := wordBytes u.a ++ wordBytes u.b ++ wordBytes u.c ++ wordBytes u.d ++ wordBytes u.e ++ wordBytes u.f ++ wordBytes u.g ++ wordBytes u.h
def digest (m : List UInt8) : List UInt8 := stBytes (comp (padded m) ((padded m).length / 64))
end Go.Proofs.YtnndifkilcommaaDoor.Sha
