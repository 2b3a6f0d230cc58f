import Derived.Test.YtajhgbcgbgpcjaaDoorFK
namespace Go.Proofs.YtajhgbcgbgpcjaaDoor.Uc
open Go.RowKit Fi

/-- A row, without the memory that its characters lie in. -/
structure Rw where
  fr : Int
  tt : Int
  nm : List UInt8
  ct : List UInt8
  cl : Int
  kd : List UInt8
  into : List Int

def ltr (b : Nat) : Bool := (97 ≤ b && b ≤ 122) || (65 ≤ b && b ≤ 90)
def ltrs (l : List UInt8) : Bool := l.all fun c => ltr c.toNat
def firstE : List UInt8 := [44, 32, 70, 105, 114, 115, 116, 62]
def lastE : List UInt8 := [44, 32, 76, 97, 115, 116, 62]
/-- The range's name in the name of its First, or of its Last. -/
def rgN (l e : List UInt8) : Option (List UInt8) :=
  if Lib.hasPrefix l [60] then (if Lib.hasSuffix (l.drop 1) e then some ((l.drop 1).take (l.length - 1 - e.length)) else none) else none
def intT (k s : List UInt8) (need : Bool) : List UInt8 × List Int × Int :=
  if (rnsE s).2 ≠ 0 then ([], [], (rnsE s).2) else if need = true ∧ (rnsE s).1 = [] then ([], [], 10) else if 18 < (rnsE s).1.length then ([], [], 11) else (k, (rnsE s).1, 0)
/-- Into what a character is parted, of which kind; the error. -/
def intE (s : List UInt8) : List UInt8 × List Int × Int :=
  if Lib.hasPrefix s [60] then
    (if (Lib.cut (s.drop 1) [62]).2.2 = true ∧ (Lib.cut (s.drop 1) [62]).1 ≠ [] ∧ ltrs (Lib.cut (s.drop 1) [62]).1 = true then intT (Lib.cut (s.drop 1) [62]).1 (Lib.cut (s.drop 1) [62]).2.1 true else ([], [], 10))
  else intT [] s false
def z0 : Rw := ⟨0, 0, [], [], 0, [], []⟩
def fld (l : List UInt8) : List (List UInt8) := (spl 59 [] l).map bareL
def rowF (f : List (List UInt8)) : Rw × Int :=
  if (hexE (f.getD 0 [])).2 ≠ 0 then (z0, (hexE (f.getD 0 [])).2)
  else if (nmE (f.getD 3 [])).2 ≠ 0 then (z0, (nmE (f.getD 3 [])).2)
  else if 254 < (nmE (f.getD 3 [])).1 then (z0, 11)
  else if (intE (f.getD 5 [])).2.2 ≠ 0 then (z0, (intE (f.getD 5 [])).2.2)
  else (⟨(hexE (f.getD 0 [])).1, (hexE (f.getD 0 [])).1, f.getD 1 [], f.getD 2 [], (nmE (f.getD 3 [])).1, (intE (f.getD 5 [])).1, (intE (f.getD 5 [])).2.1⟩, 0)
/-- What a line tells by itself; the error. -/
def rowE (l : List UInt8) : Rw × Int := if (fld l).length < 6 then (z0, 10) else rowF (fld l)
/-- Is a row the Last of a First that has its range's name already? -/
def endB (x y : Rw) : Bool := match rgN x.nm lastE with
  | none => false
  | some n => decide (n = y.nm) && (decide (x.ct = y.ct) && (decide (x.cl = y.cl) && (decide (x.into.length = 0) && (decide (y.into.length = 0) && decide (y.fr ≤ x.fr)))))
def lastR (l : List Rw) : Rw := l.getLastD z0
def putTo (l : List Rw) (t : Int) : List Rw := l.dropLast ++ [{ lastR l with tt := t }]
/-- A line behind others: the rows, the number of the First that waits; the error. -/
def stp (rs : List Rw) (op no : Nat) (t : List UInt8) : List Rw × Nat × Int :=
  if (rowE t).2 ≠ 0 then (rs, op, (rowE t).2)
  else if (rgN (rowE t).1.nm lastE).isSome = true ∨ op ≠ 0 then
    (if op = 0 ∨ endB (rowE t).1 (lastR rs) = false then (rs, op, 10) else (putTo rs (rowE t).1.tt, 0, 0))
  else if rs ≠ [] ∧ (rowE t).1.fr ≤ (lastR rs).tt then (rs, op, 12)
  else match rgN (rowE t).1.nm firstE with
    | some n => (rs ++ [{ (rowE t).1 with nm := n }], no, 0)
    | none => (rs ++ [(rowE t).1], op, 0)
def run : List Rw → Nat → List (Nat × List UInt8) → List Rw × Nat × Nat × Int
  | rs, op, [] => (rs, op, 0, 0)
  | rs, op, x :: r => if (stp rs op x.1 x.2).2.2 ≠ 0 then ((stp rs op x.1 x.2).1, (stp rs op x.1 x.2).2.1, x.1, (stp rs op x.1 x.2).2.2) else run (stp rs op x.1 x.2).1 (stp rs op x.1 x.2).2.1 r
def rwsE (s : List UInt8) : List Rw × Nat × Int :=
  if (linE s).2 ≠ 0 then ([], 0, (linE s).2)
  else if (run [] 0 (linE s).1).2.2.2 ≠ 0 then ([], (run [] 0 (linE s).1).2.2.1, (run [] 0 (linE s).1).2.2.2)
  else if (run [] 0 (linE s).1).2.1 ≠ 0 then ([], (run [] 0 (linE s).1).2.1, 10)
  else ((run [] 0 (linE s).1).1, 0, 0)

end Go.Proofs.YtajhgbcgbgpcjaaDoor.Uc
