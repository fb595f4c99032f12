/-
  A disk, as plain data: its sectors that last, the writes that wait, how many operations are left and were done; and what its calls make of it.
-/
import Derived.Test.YtpmiakcngjihnaaDoorGm1
set_option linter.unusedVariables false
set_option maxRecDepth 100000
namespace Go.Proofs.YtpmiakcngjihnaaDoor

/-- A write that waits: which sector, and all its bytes. -/
structure Wr where
  k : Int
  l : List UInt8

/-- A disk. -/
structure SD where
  size : Int
  lasts : Int → List UInt8
  waits : List Wr
  left : Int
  ops : Int

def zeros (n : Nat) : List UInt8 := List.replicate n 0
/-- Bytes, and zeros behind them. -/
def pad (l : List UInt8) : List UInt8 := l ++ zeros (512 - l.length)
/-- Bytes with others over the first of them. -/
def over (l m : List UInt8) : List UInt8 := m ++ l.drop m.length

/-- At k there is v. -/
def putAt {α : Type} (f : Int → α) (k : Int) (v : α) : Int → α := fun x => if x = k then v else f x

/-- What is found of the writes that wait. -/
def found (ws : List Wr) : Int → Option (List UInt8) := ws.foldl (fun f x => putAt f x.k (some x.l)) fun _ => none
/-- What lasts behind a flush. -/
def flushed (f : Int → List UInt8) (ws : List Wr) : Int → List UInt8 := ws.foldl (fun f x => putAt f x.k x.l) f
/-- A write of which n bytes are kept. -/
def keepOne (f : Int → List UInt8) (x : Wr) (n : Int) : Int → List UInt8 := if n < 1 then f else putAt f x.k (over (f x.k) (x.l.take (min n 512).toNat))
def kept (f : Int → List UInt8) (l : List (Wr × Int)) : Int → List UInt8 := l.foldl (fun f p => keepOne f p.1 p.2) f

theorem zeros_length (n : Nat) : (zeros n).length = n := by simp [zeros]
theorem pad_length {l : List UInt8} (h : l.length ≤ 512) : (pad l).length = 512 := by simp [pad, zeros]; omega
theorem over_length {l m : List UInt8} (h : m.length ≤ l.length) : (over l m).length = l.length := by simp [over]; omega
theorem zeros_drop (n k : Nat) : (zeros n).drop k = zeros (n - k) := by unfold zeros; rw [List.drop_replicate]
theorem pad_over (l : List UInt8) : pad l = over (zeros 512) l := by unfold pad over; rw [zeros_drop]

theorem found_snoc (ws : List Wr) (x : Wr) : found (ws ++ [x]) = putAt (found ws) x.k (some x.l) := by simp [found, List.foldl_append]
theorem flushed_snoc (f : Int → List UInt8) (ws : List Wr) (x : Wr) : flushed f (ws ++ [x]) = putAt (flushed f ws) x.k x.l := by simp [flushed, List.foldl_append]
theorem kept_snoc (f : Int → List UInt8) (l : List (Wr × Int)) (p : Wr × Int) : kept f (l ++ [p]) = keepOne (kept f l) p.1 p.2 := by simp [kept, List.foldl_append]

/-- What Read tells. -/
def SD.read (S : SD) (k : Int) : List UInt8 := (found S.waits k).getD (S.lasts k)

theorem read_flush (f : Int → List UInt8) (ws : List Wr) (k : Int) : flushed f ws k = (found ws k).getD (f k) := by
  have : ∀ ws : List Wr, ∀ k, flushed f ws.reverse k = (found ws.reverse k).getD (f k) := by
    intro ws
    induction ws with
    | nil => intro k; rfl
    | cons x ws ih =>
      intro k
      rw [List.reverse_cons, found_snoc, flushed_snoc]
      unfold putAt
      split
      · rfl
      · exact ih k
  have h := this ws.reverse k
  rwa [List.reverse_reverse] at h

/-- A sector has 512 bytes. -/
structure SD.Ok (S : SD) : Prop where
  s1 : 1 ≤ S.size
  s2 : S.size ≤ 4096
  l : ∀ k, (S.lasts k).length = 512
  w : ∀ x ∈ S.waits, x.l.length = 512 ∧ 0 ≤ x.k ∧ x.k < S.size
  n : S.waits.length ≤ S.ops
  o1 : 0 ≤ S.ops

def SD.new (n : Int) : SD := ⟨n, fun _ => zeros 512, [], -1, 0⟩
/-- An operation is counted. -/
def SD.tick (S : SD) : SD := { S with left := if 0 < S.left then S.left - 1 else S.left, ops := S.ops + 1 }
def SD.write (S : SD) (k : Int) (b : List UInt8) : SD := { S.tick with waits := S.waits ++ [⟨k, pad b⟩] }
def SD.flush (S : SD) : SD := { S.tick with lasts := flushed S.lasts S.waits, waits := [] }
def SD.cut (S : SD) (n : Int) : SD := { S with left := max n (-1) }
def SD.crash (S : SD) (keep : List Int) : SD := ⟨S.size, kept S.lasts (S.waits.zip keep), [], -1, 0⟩

end Go.Proofs.YtpmiakcngjihnaaDoor
