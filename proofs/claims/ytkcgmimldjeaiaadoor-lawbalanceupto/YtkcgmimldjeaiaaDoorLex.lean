/-
  The lexer as a plain function on lists of bytes: a step, a run, and that a text may be cut anywhere. No program is named here.
-/
import Derived.Test.YtkcgmimldjeaiaaDoorRefText
namespace Go.Proofs.YtkcgmimldjeaiaaDoor

structure LS where
  mode : Nat
  scan : Nat
  eat : Bool

inductive Item where
  | unit (b : List UInt8)
  | start (name : List UInt8) (attrs : List (List UInt8 × List UInt8))
  | stop (name : List UInt8)

/-- what a step comes to: it needs more bytes, n of them being passed; or it has taken n bytes -/
inductive Res where
  | more (n : Nat) (st : LS)
  | done (n : Nat) (st : LS) (it : List Item)
def Res.shift (k : Nat) : Res → Res
  | .more n st => .more (k + n) st
  | .done n st it => .done (k + n) st it

def spaceC (c : UInt8) : Bool := c == 9 || c == 10 || c == 12 || c == 13 || c == 32
def letterC (c : UInt8) : Bool := decide (65 ≤ c.toNat ∧ c.toNat ≤ 90 ∨ 97 ≤ c.toNat ∧ c.toNat ≤ 122)
def lowC (c : UInt8) : UInt8 := if 65 ≤ c.toNat ∧ c.toNat ≤ 90 then c + 32 else c
def alnumC (c : UInt8) : Bool := letterC c || digD c
def endsC (c : UInt8) : Bool := spaceC c || c == 47 || c == 62
def colC (c : UInt8) : Nat := if c = 47 then 1 else if c = 62 then 2 else if c = 61 then 3 else if c = 34 then 4 else if c = 39 then 5 else if spaceC c then 0 else 6
def tagTab : List (List Nat) := [[4, 4, 0, 3, 3, 3, 3], [4, 4, 0, 5, 5, 5, 5], [6, 4, 0, 7, 5, 5, 5], [6, 4, 0, 7, 5, 5, 5], [7, 10, 0, 10, 8, 9, 10], [8, 8, 8, 8, 4, 8, 8], [9, 9, 9, 9, 9, 4, 9], [4, 10, 0, 10, 10, 10, 10]]
def nextT (s : Nat) (c : UInt8) : Nat := (tagTab.getD (s - 3) []).getD (colC c) 0

/-- on in a tag: how many bytes, and the state behind them -/
def passL : Nat → List UInt8 → Nat × Nat
  | s, [] => (0, s)
  | s, c :: r => if s = 0 then (0, 0) else ((passL (nextT s c) r).1 + 1, (passL (nextT s c) r).2)

def rawNames : List (List UInt8) := [[116, 101, 120, 116, 97, 114, 101, 97], [115, 99, 114, 105, 112, 116], [115, 116, 121, 108, 101], [120, 109, 112], [105, 102, 114, 97, 109, 101], [110, 111, 101, 109, 98, 101, 100],
  [110, 111, 102, 114, 97, 109, 101, 115], [110, 111, 115, 99, 114, 105, 112, 116], [116, 105, 116, 108, 101], [112, 108, 97, 105, 110, 116, 101, 120, 116]]
def rawL (m : Nat) : List UInt8 := rawNames.getD (m - 1) []
def insF (name : List UInt8) : Nat → List (List UInt8) → Nat
  | _, [] => 0
  | i, x :: r => if name = x then i else insF name (i + 1) r
def insideL (name : List UInt8) : Nat := insF name 1 rawNames
def eatsL (name : List UInt8) : Bool := name == [112, 114, 101] || name == [116, 101, 120, 116, 97, 114, 101, 97]

/-- the end tag of the mode's own element: 0 something else, 1 its beginning but not known yet, 2 it is -/
def ownL : List UInt8 → List UInt8 → Nat
  | _, [] => 1
  | [], c :: _ => if endsC c then 2 else 0
  | o :: os, c :: r => if lowC c = o then ownL os r else 0

def tagNameL (tag : List UInt8) : List UInt8 := (tag.takeWhile fun c => nextT 3 c == 3).map lowC
/-- the attributes of a tag: the state, what has been gathered of the part that is under way, the attributes -/
def attrsL : Nat → List UInt8 → List (List UInt8 × List UInt8) → List UInt8 → List (List UInt8 × List UInt8)
  | _, _, acc, [] => acc
  | s, part, acc, c :: r =>
    if nextT s c = s then attrsL s (part ++ [c]) acc r else
      let acc2 := if s = 5 then acc ++ [(part.map lowC, [])] else if s = 8 ∨ s = 9 ∨ s = 10 then acc.dropLast ++ [((acc.getLast?.getD ([], [])).1, unr true part)] else acc
      attrsL (nextT s c) (if nextT s c = 8 ∨ nextT s c = 9 then [] else [c]) acc2 r
/-- a tag at the front, whose name begins at k -/
def tagL (W k : Nat) (L : List UInt8) (st : LS) : Res :=
  let p := passL 3 (L.drop k)
  let tag := (L.drop k).take p.1
  if k + p.1 ≤ W ∧ p.2 ≠ 0 then .more 0 st
  else .done (k + p.1) ⟨if k = 1 then insideL (tagNameL tag) else 0, p.2, if k = 1 then eatsL (tagNameL tag) else false⟩
    (if k + p.1 ≤ W then (if k = 1 then [.start (tagNameL tag) (attrsL 3 [] [] tag)] else [.stop (tagNameL tag)]) else [])

def refEnd (L : List UInt8) : Option Nat :=
  let s := if L[1]? = some 35 then 2 else 1
  let e := s + (((L.drop s).take (32 - s)).takeWhile alnumC).length
  if e < 32 then (if e = L.length then none else some (if L[e]? = some 59 then e + 1 else e)) else some e
def unitL2 (st : LS) (b : List UInt8) : List Item := if st.eat = true ∧ b = [10] then [] else [.unit b]
def noEat (st : LS) : LS := { st with eat := false }
def byteRes (st : LS) (c : UInt8) : Res := .done 1 (noEat st) (unitL2 st [c])
def refRes (st : LS) (L : List UInt8) : Res :=
  match refEnd L with
  | none => .more 0 st
  | some e => .done e (noEat st) (unitL2 st (unr false (L.take e)))

/-- in a comment, d dashes standing ahead: how many bytes there are to its end, and the dashes at the end where it has none -/
def comL : Nat → List UInt8 → Option Nat × Nat
  | d, [] => (none, d)
  | d, c :: r => if c = 62 ∧ d = 2 then (some 1, 0) else
    ((comL (if c = 45 then min (d + 1) 2 else 0) r).1.map (· + 1), (comL (if c = 45 then min (d + 1) 2 else 0) r).2)
def commentRes (st : LS) (L : List UInt8) : Res :=
  match (comL 0 L).1 with
  | some n => .done n { st with scan := 0 } []
  | none => .more (L.length - (comL 0 L).2) st
def byteIdx (x : UInt8) : List UInt8 → Option Nat
  | [] => none
  | c :: r => if c = x then some 0 else (byteIdx x r).map (· + 1)
def bogusRes (st : LS) (L : List UInt8) : Res :=
  match byteIdx 62 L with
  | some i => .done (i + 1) { st with scan := 0 } []
  | none => .more L.length st
def skipTagRes (st : LS) (L : List UInt8) : Res := .done (passL st.scan L).1 { st with scan := (passL st.scan L).2 } []
def rawRes (W : Nat) (st : LS) (L : List UInt8) : Res :=
  match byteIdx 60 L with
  | none => .done L.length st []
  | some i =>
    if st.mode = 10 then .done L.length st [] else
    let o := ownL (60 :: 47 :: rawL st.mode) (L.drop i)
    if o = 1 then .more i st else if o = 2 then (tagL W 2 (L.drop i) st).shift i else .done (i + 1) st []
def markupRes (W : Nat) (st : LS) (L : List UInt8) : Res :=
  if L = [60] ∨ L = [60, 47] ∨ L = [60, 33] ∨ L = [60, 33, 45] then .more 0 st
  else if letterC (L.getD 1 0) then tagL W 1 L st
  else if L.getD 1 0 = 47 ∧ letterC (L.getD 2 0) = true then tagL W 2 L st
  else if [60, 33, 45, 45] <+: L then .done 2 ⟨st.mode, 1, false⟩ []
  else if L.getD 1 0 = 33 ∨ L.getD 1 0 = 63 ∨ L.getD 1 0 = 47 then .done 2 ⟨st.mode, 2, false⟩ []
  else byteRes st 60
def dataRes (W : Nat) (st : LS) (L : List UInt8) : Res :=
  if L.getD 0 0 = 60 then markupRes W st L else if L.getD 0 0 = 38 then refRes st L else byteRes st (L.getD 0 0)
def areaRes (W : Nat) (st : LS) (L : List UInt8) : Res :=
  if L.getD 0 0 = 60 then
    (let o := ownL (60 :: 47 :: rawL 1) L
    if o = 1 then .more 0 st else if o = 2 then tagL W 2 L st else byteRes st 60)
  else if L.getD 0 0 = 38 then refRes st L else byteRes st (L.getD 0 0)
/-- one step, at bytes that there are -/
def stepL (W : Nat) (st : LS) (L : List UInt8) : Res :=
  if st.scan = 1 then commentRes st L else if st.scan = 2 then bogusRes st L else if st.scan ≠ 0 then skipTagRes st L
  else if st.mode = 0 then dataRes W st L else if st.mode = 1 then areaRes W st L else rawRes W st L

def runF (W : Nat) : Nat → LS → List UInt8 → LS × List UInt8 × List Item
  | 0, st, L => (st, L, [])
  | f + 1, st, L =>
    if L = [] then (st, [], []) else
    match stepL W st L with
    | .more n st' => (st', L.drop n, [])
    | .done n st' it => ((runF W f st' (L.drop n)).1, (runF W f st' (L.drop n)).2.1, it ++ (runF W f st' (L.drop n)).2.2)
def runL (W : Nat) (st : LS) (L : List UInt8) : LS × List UInt8 × List Item := runF W L.length st L
end Go.Proofs.YtkcgmimldjeaiaaDoor
