/-
  An evaluator of closed calls: abstract values, an abstract heap, and one step of the abstract machine. What it says of the machine is proved in the text behind it.
-/
import Derived.WalkKit
import Derived.Defers
import Derived.Recover
import Derived.KernelRfl
namespace Go.Ev
open Go

/-- A value whose addresses are numbers of the abstract heap. -/
inductive AV where
  | bool (b : Bool)
  | int (k : IntKind) (n : Int)
  | str (s : List UInt8)
  | ptr (id off : Nat)
  | slice (id off len cap : Nat) (ex : Bool)
  | map (id : Nat)
  | func (fn : Fn) (first cap : List AV)
  | iface (t : TypeId) (v : AV)
  | agg (cs : List AV)
  | tuple (vs : List AV)
  | raw (v : Value)
  deriving Inhabited

inductive Tr (α : Type) where
  | nil
  | node (o : Option α) (l r : Tr α)

noncomputable def Tr.get {α : Type} (t : Tr α) : Nat → Option α :=
  Tr.rec (motive := fun _ => Nat → Option α) (fun _ => none)
    (fun o _ _ gl gr i => Bool.rec (motive := fun _ => Option α) (Bool.rec (motive := fun _ => Option α) (gr (Nat.div (Nat.pred i) 2)) (gl (Nat.div i 2)) (Nat.beq (Nat.mod i 2) 1)) o (Nat.beq i 0)) t

/-- A branch that holds one value, of at most so many steps. -/
noncomputable def Tr.one {α : Type} (a : Option α) (f : Nat) : Nat → Tr α :=
  Nat.rec (motive := fun _ => Nat → Tr α) (fun _ => .nil)
    (fun _ g i => Bool.rec (motive := fun _ => Tr α) (Bool.rec (motive := fun _ => Tr α) (.node none .nil (g (Nat.div (Nat.pred i) 2))) (.node none (g (Nat.div i 2)) .nil) (Nat.beq (Nat.mod i 2) 1)) (.node a .nil .nil) (Nat.beq i 0)) f

noncomputable def Tr.put {α : Type} (f : Nat) (t : Tr α) (i : Nat) (a : Option α) : Tr α :=
  Tr.rec (motive := fun _ => Nat → Tr α) (fun i => Tr.one a f i)
    (fun o l r pl pr i => Bool.rec (motive := fun _ => Tr α) (Bool.rec (motive := fun _ => Tr α) (.node o l (pr (Nat.div (Nat.pred i) 2))) (.node o (pl (Nat.div i 2)) r) (Nat.beq (Nat.mod i 2) 1)) (.node a l r) (Nat.beq i 0)) t i

inductive AObj where
  | cells (cs : List AV) (t : TypeId) (ro : Bool) (gsz : Nat)

structure AH where
  n : Nat
  t : Tr AObj

structure ADef where
  fn : Fn
  cap : List AV
  args : List AV

inductive AMode where
  | run
  | ret
  | pan (chain : List (AV × Bool))

structure AFr where
  fn : Nat
  nt : Nat
  tm : Tr AV
  todo : List Item
  defs : List ADef
  mode : AMode
  kind : CallKind

inductive ANx where
  | val (v : AV)
  | skip
  | enter (f : FuncId) (args : List AV)
  | defer (d : ADef)
  | recover
  | pan (v : AV)

noncomputable def ofScalar : Value → AV
  | .bool b => .bool b
  | .int k n => .int k n
  | .string s => .str s.data.toList
  | v => .raw v

noncomputable def ofVal : Value → AV
  | .bool b => .bool b
  | .int k n => .int k n
  | .string s => .str s.data.toList
  | .agg cs => .agg (cs.toList.map ofScalar)
  | .tuple cs => .tuple (cs.toList.map ofScalar)
  | .iface t (.agg cs) => .iface t (.agg (cs.toList.map ofScalar))
  | .iface t v => .iface t (ofScalar v)
  | v => .raw v

noncomputable def AV.sc : AV → Option Value
  | .bool b => some (.bool b)
  | .int k n => some (.int k n)
  | .str s => some (.string ⟨s.toArray⟩)
  | .raw v => some v
  | _ => none

noncomputable def scs : List AV → Option (List Value)
  | [] => some []
  | a :: l => match a.sc with
    | some v => (match scs l with | some vs => some (v :: vs) | none => none)
    | none => none

noncomputable def AV.val : AV → Option Value
  | .agg cs => match scs cs with | some vs => some (.agg vs.toArray) | none => none
  | .iface t (.agg cs) => match scs cs with | some vs => some (.iface t (.agg vs.toArray)) | none => none
  | .iface t a => match a.sc with | some v => some (.iface t v) | none => none
  | a => a.sc

/-- What a program of the model that touches no memory comes to. -/
noncomputable def pureRun {α : Type} (P : Program) : Sem α → Option (α ⊕ Value)
  | .pure a => some (.inl a)
  | .program k => pureRun P (k P)
  | .mark _ k => pureRun P k
  | .halt (.panic v) => some (.inr v)
  | _ => none

noncomputable def pure1 (P : Program) (s : Sem Value) : Option ANx :=
  match pureRun P s with
  | some (.inl v) => some (.val (ofVal v))
  | some (.inr v) => some (.pan (ofVal v))
  | none => none

noncomputable def AH.get (h : AH) (id : Nat) : Option AObj := h.t.get id
noncomputable def AH.put (h : AH) (id : Nat) (o : Option AObj) : AH := { h with t := h.t.put 24 id o }
noncomputable def AH.alloc (h : AH) (o : AObj) : Option (Nat × AH) :=
  bif Nat.blt h.n 1000000 then some (h.n, { n := h.n + 1, t := h.t.put 24 h.n (some o) }) else none

noncomputable def AV.cells : AV → List AV
  | .agg cs => cs
  | .raw (.agg cs) => cs.toList.map ofScalar
  | v => [v]

noncomputable def AV.one : AV → Bool
  | .agg _ => false
  | .tuple _ => false
  | .raw (.agg _) => false
  | .raw (.tuple _) => false
  | _ => true

/-- Put the values over the list from a place on; none where they do not fit. -/
noncomputable def over : List AV → Nat → List AV → Option (List AV)
  | cs, 0, [] => some cs
  | _ :: cs, 0, v :: vs => (match over cs 0 vs with | some r => some (v :: r) | none => none)
  | c :: cs, n + 1, vs => (match over cs n vs with | some r => some (c :: r) | none => none)
  | [], 0, _ :: _ => none
  | [], _ + 1, _ => none

noncomputable def takeN : Nat → List AV → Option (List AV)
  | 0, _ => some []
  | n + 1, v :: l => (match takeN n l with | some r => some (v :: r) | none => none)
  | _ + 1, [] => none

noncomputable def isAggT (P : Program) (t : TypeId) : Option Bool :=
  match P.underlying t with
  | some (.struct _) => some true
  | some (.array _ _) => some true
  | some _ => some false
  | none => none

noncomputable def sizeT (P : Program) (t : TypeId) : Option Nat := match P.info? t with | some i => some i.size | none => none
noncomputable def zeroT (P : Program) (t : TypeId) : Option AV := match P.info? t with
  | some i => (match i.zero with | some z => some (ofVal z) | none => none)
  | none => none

/-- A part of a list of cells, as a value of a type. -/
noncomputable def partA (P : Program) (t : TypeId) (cs : List AV) (off : Nat) : Option AV :=
  match isAggT P t with
  | some true => (match sizeT P t with
    | some n => (match takeN n (cs.drop off) with | some r => some (.agg r) | none => none)
    | none => none)
  | some false => cs[off]?
  | none => none

noncomputable def loadA (P : Program) (t : TypeId) (h : AH) (id off : Nat) : Option AV :=
  match h.get id with
  | some (.cells cs _ _ _) => partA P t cs off
  | none => none

noncomputable def putCells (h : AH) (id off : Nat) (vs : List AV) : Option AH :=
  match h.get id with
  | some (.cells cs t false g) =>
    bif vs.all AV.one then (match over cs off vs with | some r => some (h.put id (some (.cells r t false g))) | none => none) else none
  | _ => none

noncomputable def newRowA (h : AH) (t : TypeId) (cs : List AV) (gsz : Nat := 0) : Option (Nat × AH) :=
  bif cs.all AV.one then h.alloc (.cells cs t false gsz) else none

noncomputable def fillA (place : Nat → Option (Nat × Nat)) (cells : List AV) : List (Nat × AV) → Option (List AV)
  | [] => some cells
  | (i, v) :: rest =>
    match place i with
    | none => none
    | some (off, size) =>
      bif Nat.beq v.cells.length size then (match over cells off v.cells with | some r => fillA place r rest | none => none) else none

noncomputable def repeatA (zero : List AV) : Nat → List AV
  | 0 => []
  | n + 1 => zero ++ repeatA zero n

noncomputable def idx? (a : AV) : Option Nat :=
  match a with
  | .int _ (.ofNat n) => some n
  | _ => none

/-- A bound of a cut: not above the limit. -/
noncomputable def boundA (limit : Nat) : Option AV → Option Nat → Option Nat
  | some a, _ => (match idx? a with | some n => bif Nat.ble n limit then some n else none | none => none)
  | none, d => d

noncomputable def boundsA (len cap : Nat) (lo hi mx : Option AV) : Option (Nat × Nat × Nat) :=
  match boundA cap mx (some cap) with
  | none => none
  | some m =>
    match boundA m hi (match mx with | some _ => none | none => some len) with
    | none => none
    | some h =>
      match boundA h lo (some 0) with
      | none => none
      | some l => some (l, h, m)

noncomputable def opt (ρ : Operand → Option AV) : Option Operand → Option (Option AV)
  | none => some none
  | some x => (match ρ x with | some a => some (some a) | none => none)

noncomputable def evs (ρ : Operand → Option AV) : List Operand → Option (List AV)
  | [] => some []
  | x :: l => match ρ x with
    | some a => (match evs ρ l with | some r => some (a :: r) | none => none)
    | none => none

noncomputable def lb : List UInt8 → List UInt8 → Bool
  | [], [] => true
  | a :: x, b :: y => bif Nat.beq a.toNat b.toNat then lb x y else false
  | _, _ => false

noncomputable def ll : List UInt8 → List UInt8 → Bool
  | _, [] => false
  | [], _ :: _ => true
  | a :: x, b :: y => bif Nat.blt a.toNat b.toNat then true else bif Nat.beq a.toNat b.toNat then ll x y else false

noncomputable def strOp (op : BinOp) (x y : List UInt8) : Option AV :=
  match op with
  | .add => bif Nat.ble (x.length + y.length) 1000000000 then some (.str (x ++ y)) else none
  | .eql => some (.bool (lb x y))
  | .neq => some (.bool (!lb x y))
  | .lss => some (.bool (ll x y))
  | .leq => some (.bool (ll x y || lb x y))
  | .gtr => some (.bool (!(ll x y || lb x y)))
  | .geq => some (.bool (!ll x y))
  | _ => none

noncomputable def eqIface (P : Program) (a : TypeId) (v : AV) (b : TypeId) (w : AV) : Option Bool :=
  bif Nat.beq a b then (match P.info? a with
    | some i => bif i.comparable then (match v.val, w.val with
      | some v, some w => (match pureRun P (Op.equalIn 9999 a v w) with | some (.inl r) => some r | _ => none)
      | _, _ => none) else none
    | none => none) else some false

noncomputable def eqA (P : Program) (t : TypeId) (x y : AV) : Option Bool :=
  match P.underlying t with
  | some (.pointer e) => (match x, y with
    | .ptr a o, .ptr b p => (match sizeT P e with
      | some (_ + 1) => bif Nat.beq a b then some (Nat.beq o p) else none
      | _ => none)
    | .ptr _ _, .raw (.pointer none) => some false
    | .raw (.pointer none), .ptr _ _ => some false
    | _, _ => none)
  | some (.slice _) => (match x, y with
    | .slice _ _ _ _ _, .raw (.slice none _ _) => some false
    | .raw (.slice none _ _), .slice _ _ _ _ _ => some false
    | _, _ => none)
  | some (.map _ _) => (match x, y with
    | .map _, .raw (.map none) => some false
    | .raw (.map none), .map _ => some false
    | _, _ => none)
  | some (.func _ _ _) => (match x, y with
    | .func _ _ _, .raw .nilFunc => some false
    | .raw .nilFunc, .func _ _ _ => some false
    | _, _ => none)
  | some (.interface _) => (match x, y with
    | .iface _ _, .raw .nilIface => some false
    | .raw .nilIface, .iface _ _ => some false
    | .iface a v, .iface b w => eqIface P a v b w
    | _, _ => none)
  | _ => none

noncomputable def intA (P : Program) (op : BinOp) (k : IntKind) (a b : Int) : Option ANx :=
  match op with
  | .add => some (.val (.int k (k.wrap (a + b))))
  | .sub => some (.val (.int k (k.wrap (a - b))))
  | .mul => some (.val (.int k (k.wrap (a * b))))
  | .eql => some (.val (.bool (a == b)))
  | .neq => some (.val (.bool (a != b)))
  | .lss => some (.val (.bool (a < b)))
  | .leq => some (.val (.bool (a ≤ b)))
  | .gtr => some (.val (.bool (a > b)))
  | .geq => some (.val (.bool (a ≥ b)))
  | .quo => pure1 P (Op.intDiv op k a b)
  | .rem => pure1 P (Op.intDiv op k a b)
  | .shl => none
  | .shr => none
  | op => pure1 P (Op.intBits op k a b)

noncomputable def binA (P : Program) (op : BinOp) (t : TypeId) (xo yo : Operand) (x y : AV) : Option ANx :=
  match x, y with
  | .str a, .str b => (match strOp op a b with | some v => some (.val v) | none => none)
  | .int k a, .int k' b => (match op with
    | .shl => pure1 P (Op.shift .shl k a k' b)
    | .shr => pure1 P (Op.shift .shr k a k' b)
    | op => bif k == k' then intA P op k a b else none)
  | x, y =>
    match x.val, y.val with
    | some v, some w => pure1 P (do eqGuard op t xo yo v w; binOp op t v w)
    | _, _ =>
      match op with
      | .eql => (match eqA P t x y with | some b => some (.val (.bool b)) | none => none)
      | .neq => (match eqA P t x y with | some b => some (.val (.bool (!b))) | none => none)
      | _ => none

noncomputable def lenA : AV → Option Nat
  | .str s => some s.length
  | .slice _ _ n _ _ => some n
  | .raw (.slice none 0 0) => some 0
  | _ => none

noncomputable def bytesA : List UInt8 → List AV
  | [] => []
  | b :: l => .int .u8 b.toNat :: bytesA l

/-- The first n elements' cells of what is appended, or copied. -/
noncomputable def firstA (h : AH) (size n : Nat) : AV → Option (List AV)
  | .str s => some (bytesA (s.take n))
  | .slice id off _ _ _ => (match h.get id with
    | some (.cells cs _ _ _) => takeN (n * size) (cs.drop off)
    | none => none)
  | .raw (.slice none 0 0) => some []
  | _ => none

/-- Is the type's shape a string's or a slice's? -/
noncomputable def seqT (P : Program) (t : TypeId) : Bool :=
  match P.underlying t with
  | some .string => true
  | some (.slice _) => true
  | _ => false

/-- Room for what is appended: the old cells, if a new row is laid. -/
noncomputable def appendTo (h : AH) (e : TypeId) (size : Nat) (new : List AV) (n : Nat) (s : AV) : Option (AV × AH) :=
  match s with
  | .raw (.slice none 0 0) =>
    bif Nat.beq n 0 then some (s, h) else
    (match newRowA h e new size with
    | some (id, h') => some (.slice id 0 n n false, h')
    | none => none)
  | .slice id off len cap ex =>
    bif Nat.ble (len + n) cap then
      (match putCells h id (off + len * size) new with
      | some h' => some (.slice id off (len + n) cap ex, h')
      | none => none)
    else
      (match h.get id with
      | some (.cells cs t ro g) =>
        (match takeN (len * size) (cs.drop off) with
        | none => none
        | some old =>
          bif ex then
            (match newRowA h e (old ++ new) size with
            | some (id', h') => some (.slice id' 0 (len + n) (len + n) false, h')
            | none => none)
          else
            bif Nat.beq off 0 && Nat.beq cs.length (len * size) && !ro && Nat.beq g size && Nat.beq t e then
              (match newRowA (h.put id none) e (cs ++ new) size with
              | some (id', h') => some (.slice id' 0 (len + n) (len + n) false, h')
              | none => none)
            else none)
      | none => none)
  | _ => none

noncomputable def lenS : AV → Nat
  | .slice _ _ n _ _ => n
  | _ => 0

noncomputable def appendA (P : Program) (ts : Array TypeId) (h : AH) (s x : AV) : Option (AV × AH) :=
  match ts[0]?, ts[1]? with
  | some st, some xt =>
    (match P.underlying st, seqT P xt with
    | some (.slice e), true => (match P.info? e, lenA x with
      | some i, some n => (match i.zero with
        | some z => bif Nat.ble (lenS s + n) 1000000 && Nat.ble i.bytes 1000000 && Nat.ble 1 i.size && Nat.beq (ofVal z).cells.length i.size then
            (match firstA h i.size n x with
            | none => none
            | some new => bif Nat.beq new.length (n * i.size) then appendTo h e i.size new n s else none) else none
        | none => none)
      | _, _ => none)
    | _, _ => none)
  | _, _ => none

noncomputable def copyA (P : Program) (ts : Array TypeId) (h : AH) (d x : AV) : Option (ANx × AH) :=
  match ts[0]?, d, lenA x with
  | some dt, .slice id off len _ _, some n => (match P.underlying dt with
    | some (.slice e) => (match sizeT P e with
      | some size => (match firstA h size (Nat.min n len) x with
        | some new => (match putCells h id off new with | some h' => some (.val (.int .i64 (Nat.min n len)), h') | none => none)
        | none => none)
      | none => none)
    | _ => none)
  | _, _, _ => none

noncomputable def u8s : List AV → Option (List UInt8)
  | [] => some []
  | .int .u8 (.ofNat n) :: l => bif Nat.blt n 256 then (match u8s l with | some r => some (UInt8.ofNat n :: r) | none => none) else none
  | _ => none

/-- The head of a row of bytes as a string: the row is frozen. -/
noncomputable def stringA (P : Program) (ts : List TypeId) (h : AH) (id n : Nat) : Option (ANx × AH) :=
  match ts with
  | [pt, _] => (match P.underlying pt, h.get id with
    | some (.pointer e), some (.cells cs t false g) => (match sizeT P e, takeN n cs with
      | some 1, some l => (match u8s l with
        | some r => bif Nat.beq t e && Nat.ble 1 n && Nat.ble n 1000000 then some (.val (.str r), h.put id (some (.cells cs t true g))) else none
        | none => none)
      | _, _ => none)
    | _, _ => none)
  | _ => none

noncomputable def builtA (P : Program) (b : Builtin) (ts : Array TypeId) (args : List AV) (h : AH) : Option (ANx × AH) :=
  match b, args with
  | .append, [s, x] => (match appendA P ts h s x with | some (v, h') => some (.val v, h') | none => none)
  | .recover, [] => some (.recover, h)
  | .copy, [d, x] => copyA P ts h d x
  | .unsafeString, [.ptr id 0, .int .i64 (.ofNat n)] => stringA P ts.toList h id n
  | _, _ => none

noncomputable def noParts (ρ : Operand → Option AV) : List (Nat × Operand) → Option (List (Nat × AV))
  | [] => some []
  | (i, x) :: l => match ρ x with
    | some a => (match noParts ρ l with | some r => some ((i, a) :: r) | none => none)
    | none => none

noncomputable def placesA (P : Program) : List Field → Option (List (Nat × Nat))
  | [] => some []
  | f :: l => match sizeT P f.type with
    | some n => (match placesA P l with | some r => some ((f.offset, n) :: r) | none => none)
    | none => none

/-- The method of a type by a name, where its row has no path: its function, and what it takes as its receiver. -/
noncomputable def methodA (P : Program) (t : TypeId) (v : AV) (name : String) : Option (FuncId × AV) :=
  match P.info? t with
  | none => none
  | some i => match i.methods.find? (fun m => m.name == name) with
    | none => none
    | some m => match m.path.toList with
      | [] => (match m.func with
        | some (f, true) => (match P.underlying t with
          | some (.pointer _) => some (f, v)
          | _ => none)
        | some (f, false) => (match P.underlying t with
          | some (.pointer _) => none
          | some _ => some (f, v)
          | none => none)
        | none => none)
      | _ => none

noncomputable def invokeA (P : Program) (r : AV) (name : String) (args : List AV) : Option ANx :=
  match r with
  | .iface t v => (match methodA P t v name with
    | some (f, u) => some (.enter f (u :: args))
    | none => none)
  | _ => none

noncomputable def callA (P : Program) (fn : Fn) (args cap : List AV) : Option ANx :=
  match fn with
  | .func f => some (.enter f (args ++ cap))
  | .method name => (match args with
    | r :: args => invokeA P r name args
    | [] => none)
  | .methodOf t name => (match args with
    | r :: args => (match P.underlying t with
      | some (.interface _) => invokeA P r name args
      | some _ => invokeA P (.iface t r) name args
      | none => none)
    | [] => none)
  | _ => none

noncomputable def vv : Option AV → Option ANx
  | some a => some (.val a)
  | none => none
noncomputable def aNx (h : AH) : Option ANx → Option (ANx × AH)
  | some a => some (a, h)
  | none => none
noncomputable def aPick (ρ : Operand → Option AV) (c a b : Operand) : Option ANx :=
  match ρ c with
  | some (.bool t) => vv (ρ (bif t then a else b))
  | _ => none
noncomputable def aNewVar (t : TypeId) (h : AH) : Option AV → Option (ANx × AH)
  | some v => (match newRowA h t v.cells with | some (id, h') => some (.val (.ptr id 0), h') | none => none)
  | none => none
noncomputable def aBuild (P : Program) (t : TypeId) (z : Option AV) (ps : Option (List (Nat × AV))) : Option ANx :=
  match z, ps with
  | some z, some ps => (match P.underlying t with
    | some (.struct fs) => (match placesA P fs.toList with
      | some pl => (match fillA (fun i => pl[i]?) z.cells ps with | some r => some (.val (.agg r)) | none => none)
      | none => none)
    | some (.array _ e) => (match sizeT P e with
      | some n => (match fillA (fun i => some (i * n, n)) z.cells ps with | some r => some (.val (.agg r)) | none => none)
      | none => none)
    | _ => none)
  | _, _ => none
noncomputable def aLoad (P : Program) (t : TypeId) (h : AH) : Option AV → Option ANx
  | some (.ptr id off) => vv (loadA P t h id off)
  | _ => none
noncomputable def aStore (P : Program) (t : TypeId) (h : AH) (a x : Option AV) : Option (ANx × AH) :=
  match a, x with
  | some (.ptr id off), some v => (match sizeT P t with
    | some n => bif Nat.beq v.cells.length n then (match putCells h id off v.cells with | some h' => some (.skip, h') | none => none) else none
    | none => none)
  | _, _ => none
/-- Is a function's value good to be called: its receiver's dynamic type has the method. -/
noncomputable def readyA (P : Program) : Fn → List AV → Bool
  | .method name, .iface t v :: _ => (match methodA P t v name with | some _ => true | none => false)
  | .method _, [] => true
  | .method _, _ => false
  | _, _ => true
noncomputable def aNil (P : Program) : Option AV → Option ANx
  | some (.ptr id off) => some (.val (.ptr id off))
  | some (.func fn first cap) => bif readyA P fn first then some (.val (.func fn first cap)) else none
  | _ => none
noncomputable def aBin (P : Program) (op : BinOp) (t : TypeId) (xo yo : Operand) (x y : Option AV) : Option ANx :=
  match x, y with
  | some a, some b => binA P op t xo yo a b
  | _, _ => none
noncomputable def aUn (P : Program) (op : UnOp) : Option AV → Option ANx
  | some a => (match a.val with
    | some v => pure1 P (Op.unary op v)
    | none => none)
  | none => none
noncomputable def aConvP (P : Program) (s d : TypeId) : Option AV → Option ANx
  | some (.int _ n) => (match P.underlying s, P.underlying d with
    | some _, some (.int k) => some (.val (.int k (k.wrap n)))
    | _, _ => none)
  | some (.str x) => (match P.underlying s, P.underlying d with
    | some _, some .string => some (.val (.str x))
    | _, _ => none)
  | _ => none
noncomputable def aConvR (P : Program) (s d : TypeId) (h : AH) : Option AV → Option ANx
  | some (.slice id off len _ _) => (match P.underlying s, P.underlying d, h.get id with
    | some (.slice e), some .string, some (.cells cs _ _ _) => (match P.underlying e, takeN len (cs.drop off) with
      | some (.int .u8), some l => (match u8s l with | some r => some (.val (.str r)) | none => none)
      | _, _ => none)
    | _, _, _ => none)
  | some (.raw (.slice none 0 0)) => (match P.underlying s, P.underlying d with
    | some (.slice e), some .string => (match P.underlying e with
      | some (.int .u8) => some (.val (.str []))
      | _ => none)
    | _, _ => none)
  | _ => none
noncomputable def aIface (P : Program) (t : TypeId) : Option AV → Option ANx
  | some a => (match P.underlying t with
    | some (.interface _) => none
    | some _ => some (.val (.iface t a))
    | none => none)
  | none => none
noncomputable def aFunc (fn : Fn) (f c : Option (List AV)) : Option ANx :=
  match f, c with
  | some f, some c => some (.val (.func fn f c))
  | _, _ => none
noncomputable def aMakeSlice (P : Program) (t : TypeId) (h : AH) (l c : Option AV) : Option (ANx × AH) :=
  match l, c with
  | some (.int .i64 (.ofNat n)), some (.int .i64 (.ofNat m)) => (match P.underlying t with
    | some (.slice e) => (match P.info? e with
      | some i => bif Nat.ble n m && Nat.ble m 1000000 && Nat.ble i.bytes 1000000 then
          (match i.zero with
          | some z => (match newRowA h e (repeatA (ofVal z).cells m) with
            | some (id, h') => bif Nat.beq (ofVal z).cells.length i.size then some (.val (.slice id 0 n m true), h') else none
            | none => none)
          | none => none) else none
      | none => none)
    | _ => none)
  | _, _ => none
noncomputable def aRow (h : AH) (e : TypeId) (len : Nat) : Option (List AV) → Option (ANx × AH)
  | some r => (match newRowA h e r with
    | some (id, h') => some (.val (.slice id 0 len len true), h')
    | none => none)
  | none => none
noncomputable def aBuildSlice (P : Program) (t : TypeId) (len : Nat) (ps : Option (List (Nat × AV))) (h : AH) : Option (ANx × AH) :=
  match ps, P.underlying t with
  | some ps, some (.slice e) => (match sizeT P e, zeroT P e with
    | some size, some z => bif Nat.ble 1 (len * size) && Nat.ble (len * size) 1000000 && Nat.beq z.cells.length size then
        aRow h e len (fillA (fun i => some (i * size, size)) (repeatA z.cells len) ps) else
        bif Nat.beq len 0 && ps.isEmpty then aRow h e 0 (some []) else none
    | _, _ => none)
  | _, _ => none
noncomputable def aSlice (P : Program) (t : TypeId) (a : Option AV) (lo hi mx : Option (Option AV)) : Option ANx :=
  match a, lo, hi, mx with
  | some a, some lo, some hi, some mx => (match a, P.underlying t with
    | .ptr id off, some (.array n e) => (match boundsA n n lo hi mx, sizeT P e with
      | some (l, hh, m), some size => some (.val (.slice id (bif Nat.beq m l then off else off + l * size) (hh - l) (m - l) true))
      | _, _ => none)
    | .slice id off len cap ex, some (.slice e) => (match boundsA len cap lo hi mx, sizeT P e with
      | some (l, hh, m), some size => bif ex then some (.val (.slice id (bif Nat.beq m l then off else off + l * size) (hh - l) (m - l) true))
          else bif Nat.beq l 0 then some (.val (.slice id off hh m (match mx with | some _ => true | none => false)))
          else none
      | _, _ => none)
    | .str s, some .string => (match boundsA s.length s.length lo hi none, mx with
      | some (l, hh, _), none => some (.val (.str ((s.drop l).take (hh - l))))
      | _, _ => none)
    | .raw (.slice none 0 0), some (.slice e) => (match boundsA 0 0 lo hi mx, sizeT P e with
      | some (0, 0, 0), some _ => some (.val (.raw (.slice none 0 0)))
      | _, _ => none)
    | _, _ => none)
  | _, _, _, _ => none
noncomputable def aFieldAddr (P : Program) (t : TypeId) (f : Nat) : Option AV → Option ANx
  | some (.ptr id off) => (match P.underlying t with
    | some (.struct fs) => (match fs[f]? with
      | some fd => (match sizeT P fd.type with
        | some (_ + 1) => some (.val (.ptr id (off + fd.offset)))
        | _ => none)
      | none => none)
    | _ => none)
  | _ => none
noncomputable def aField (P : Program) (t : TypeId) (f : Nat) : Option AV → Option ANx
  | some (.agg cs) => (match P.underlying t with
    | some (.struct fs) => (match fs[f]? with
      | some fd => vv (partA P fd.type cs fd.offset)
      | none => none)
    | _ => none)
  | _ => none
noncomputable def aIndexAddr (P : Program) (t : TypeId) (x ix : Option AV) : Option ANx :=
  match x, ix with
  | some (.ptr id off), some (.int _ (.ofNat i)) => (match P.underlying t with
    | some (.array n e) => (match sizeT P e with
      | some size => bif Nat.blt i n then some (.val (.ptr id (off + i * size))) else none
      | none => none)
    | _ => none)
  | some (.slice id off len _ _), some (.int _ (.ofNat i)) => (match P.underlying t with
    | some (.slice e) => (match sizeT P e with
      | some size => bif Nat.blt i len then some (.val (.ptr id (off + i * size))) else none
      | none => none)
    | _ => none)
  | _, _ => none
noncomputable def aIndex (P : Program) (t : TypeId) (x ix : Option AV) : Option ANx :=
  match x, ix with
  | some (.str s), some (.int _ (.ofNat i)) => (match P.underlying t with
    | some .string => (match s[i]? with
      | some b => some (.val (.int .u8 b.toNat))
      | none => none)
    | _ => none)
  | some (.agg cs), some (.int _ (.ofNat i)) => (match P.underlying t with
    | some (.array n e) => (match sizeT P e with
      | some size => bif Nat.blt i n then vv (partA P e cs (i * size)) else none
      | none => none)
    | _ => none)
  | _, _ => none
noncomputable def aFails (P : Program) (t : TypeId) (ok : Bool) : Option ANx :=
  bif ok then (match zeroT P t with | some z => some (.val (.tuple [z, .bool false])) | none => none) else none
noncomputable def hasAll (want : Array (String × TypeId)) (got : Array Method) : Bool :=
  want.toList.all fun p => got.any fun m => m.name == p.1 && m.sig == p.2
noncomputable def aAssert (P : Program) (t : TypeId) (ok : Bool) : Option AV → Option ANx
  | some (.iface d v) => (match P.underlying t with
    | some (.interface want) => (match P.info? d with
      | some i => bif hasAll want i.methods then some (.val (bif ok then .tuple [.iface d v, .bool true] else .iface d v)) else aFails P t ok
      | none => none)
    | some _ => bif Nat.beq d t then some (.val (bif ok then .tuple [v, .bool true] else v)) else aFails P t ok
    | none => none)
  | some (.raw .nilIface) => (match P.underlying t with
    | some _ => aFails P t ok
    | none => none)
  | _ => none
noncomputable def aExtract (i : Nat) : Option AV → Option ANx
  | some (.tuple vs) => vv vs[i]?
  | _ => none
noncomputable def aBuiltinP (P : Program) (b : Builtin) (ts : Array TypeId) (args : Option (List AV)) : Option ANx :=
  match b, args with
  | .len, some [a] => (match ts[0]? with
    | some t => (match P.underlying t, lenA a with
      | some .string, some n => (match a with | .str _ => some (.val (.int .i64 n)) | _ => none)
      | some (.slice _), some n => (match a with | .str _ => none | _ => some (.val (.int .i64 n)))
      | _, _ => none)
    | none => none)
  | .cap, some [.slice _ _ _ c true] => (match ts[0]? with
    | some t => (match P.underlying t with
      | some (.slice _) => some (.val (.int .i64 c))
      | _ => none)
    | none => none)
  | .min, some [.int k a, .int _ b] => some (.val (.int k (bif decide (b < a) then b else a)))
  | .max, some [.int k a, .int _ b] => some (.val (.int k (bif decide (a < b) then b else a)))
  | _, _ => none
noncomputable def aCall (P : Program) (ρ : Operand → Option AV) (h : AH) (callee : Callee) (ts : Array TypeId) : Option (List AV) → Option (ANx × AH)
  | none => none
  | some args => (match callee with
    | .builtin b => builtA P b ts args h
    | .value f => (match ρ f with
      | some (.func fn first cap) => aNx h (callA P fn (first ++ args) cap)
      | _ => none)
    | .invoke r name => (match ρ r with
      | some r => aNx h (invokeA P r name args)
      | none => none))
noncomputable def aDefer (ρ : Operand → Option AV) (callee : Callee) : Option (List AV) → Option ANx
  | none => none
  | some args => (match callee with
    | .value f => (match ρ f with
      | some (.func fn first cap) => some (.defer { fn := fn, cap := cap, args := first ++ args })
      | _ => none)
    | _ => none)
noncomputable def aPanic : Option AV → Option ANx
  | some (.iface t v) => some (.pan (.iface t v))
  | _ => none

/-- What an operation may touch: nothing; it reads the heap; all. -/
inductive Cls where
  | p
  | r
  | l
noncomputable def cls2 (P : Program) : Op → Cls
  | .build _ _ => .p
  | .unOp _ _ _ => .p
  | .convert s d _ => (match P.underlying s, P.underlying d with
    | some (.slice _), some .string => .r
    | some .string, some (.slice _) => .l
    | _, _ => .p)
  | .makeFunc _ _ _ => .p
  | .slice _ _ _ _ _ => .p
  | .field _ _ _ => .p
  | .typeAssert _ _ _ _ => .p
  | .panic _ => .p
  | .defer _ => .p
  | _ => .l
noncomputable def clsC : Callee → Cls
  | .builtin .len => .p
  | .builtin .cap => .p
  | .builtin .min => .p
  | .builtin .max => .p
  | _ => .l
noncomputable def cls (P : Program) : Op → Cls
  | .move _ => .p
  | .assign _ => .p
  | .pick _ _ _ => .p
  | .load _ _ => .r
  | .nilCheck _ => .p
  | .binOp _ _ _ _ _ => .p
  | .makeInterface _ _ => .p
  | .fieldAddr _ _ _ => .p
  | .indexAddr _ _ _ => .p
  | .index _ _ _ => .p
  | .extract _ _ => .p
  | .call c => clsC c.callee
  | o => cls2 P o

noncomputable def aPureC (P : Program) (ts : Array TypeId) (args : Option (List AV)) : Callee → Option ANx
  | .builtin b => aBuiltinP P b ts args
  | _ => none
noncomputable def aPure2 (P : Program) (ρ : Operand → Option AV) : Op → Option ANx
  | .build t parts => aBuild P t (zeroT P t) (noParts ρ parts.toList)
  | .unOp op _ x => aUn P op (ρ x)
  | .convert s d x => aConvP P s d (ρ x)
  | .makeFunc fn first cap => aFunc fn (evs ρ first.toList) (evs ρ cap.toList)
  | .slice t x lo hi mx => aSlice P t (ρ x) (opt ρ lo) (opt ρ hi) (opt ρ mx)
  | .field t x f => aField P t f (ρ x)
  | .typeAssert x _ t ok => aAssert P t ok (ρ x)
  | .defer c => aDefer ρ c.callee (evs ρ c.args.toList)
  | .panic x => aPanic (ρ x)
  | _ => none
noncomputable def aPure (P : Program) (ρ : Operand → Option AV) : Op → Option ANx
  | .move x => vv (ρ x)
  | .assign x => vv (ρ x)
  | .pick c a b => aPick ρ c a b
  | .nilCheck x => aNil P (ρ x)
  | .binOp op t x y _ => aBin P op t x y (ρ x) (ρ y)
  | .makeInterface t x => aIface P t (ρ x)
  | .fieldAddr t x f => aFieldAddr P t f (ρ x)
  | .indexAddr t x ix => aIndexAddr P t (ρ x) (ρ ix)
  | .index t x ix => aIndex P t (ρ x) (ρ ix)
  | .extract x i => aExtract i (ρ x)
  | .call c => aPureC P c.argTypes (evs ρ c.args.toList) c.callee
  | o => aPure2 P ρ o
noncomputable def aRead (P : Program) (ρ : Operand → Option AV) (h : AH) : Op → Option ANx
  | .load t x => aLoad P t h (ρ x)
  | .convert s d x => aConvR P s d h (ρ x)
  | _ => none
noncomputable def aLoud (P : Program) (ρ : Operand → Option AV) (h : AH) : Op → Option (ANx × AH)
  | .store t a x => aStore P t h (ρ a) (ρ x)
  | .call c => aCall P ρ h c.callee c.argTypes (evs ρ c.args.toList)
  | .alloc t => aNewVar t h (zeroT P t)
  | .box t x => aNewVar t h (ρ x)
  | .makeSlice t l c => aMakeSlice P t h (ρ l) (ρ c)
  | .buildSlice t len parts => aBuildSlice P t len (noParts ρ parts.toList) h
  | _ => none
noncomputable def aop (P : Program) (ρ : Operand → Option AV) (o : Op) (h : AH) : Option (ANx × AH) :=
  match cls P o with
  | .p => aNx h (aPure P ρ o)
  | .r => aNx h (aRead P ρ h o)
  | .l => aLoud P ρ h o

noncomputable def operandA (G : Nat) (tm : Tr AV) : Operand → Option AV
  | .tmp t => tm.get t
  | .const v => some (ofVal v)
  | .global g => bif Nat.blt g G then some (.ptr g 0) else none
  | .func f => some (.func (.func f) [] [])

noncomputable def enterA (P : Program) (f : FuncId) (args : List AV) (kind : CallKind) : Option AFr :=
  match P.funcs[f]? with
  | some fn => (match fn.body with
    | some c => bif Nat.ble args.length fn.ntmps && Nat.blt fn.ntmps 1000000 then
        some { fn := f, nt := fn.ntmps, tm := (args.foldl (fun (p : Tr AV × Nat) a => (p.1.put 24 p.2 (some a), p.2 + 1)) (Tr.nil, 0)).1, todo := [.code c], defs := [], mode := .run, kind := kind } else none
    | none => none)
  | none => none

noncomputable def resultA (P : Program) (h : AH) (tm : Tr AV) : ResultVar → Option AV
  | .tmp t => tm.get t
  | .cell a t => (match tm.get a with
    | some (.ptr id off) => loadA P t h id off
    | _ => none)

noncomputable def resultsL (P : Program) (h : AH) (tm : Tr AV) : List ResultVar → Option (List AV)
  | [] => some []
  | r :: l => match resultA P h tm r with
    | some a => (match resultsL P h tm l with | some x => some (a :: x) | none => none)
    | none => none

noncomputable def resultsA (P : Program) (h : AH) (f : Nat) (tm : Tr AV) : Option AV :=
  match P.funcs[f]? with
  | some fn => (match resultsL P h tm fn.results.toList with
    | some [a] => some a
    | some l => some (.tuple l)
    | none => none)
  | none => none

structure ASt where
  fr : AFr
  cs : List AFr
  h : AH

/-- What the kit's contracts tell of a call: its result, and the heap behind it. -/
abbrev Orc := FuncId → List AV → AH → Option (AV × AH)

noncomputable def raisedA : AMode → List (AV × Bool) → AMode
  | .pan old, ch => .pan (ch ++ old)
  | _, ch => .pan ch

noncomputable def settleA : AMode → Option AMode
  | .pan ((_, true) :: _) => some .ret
  | .pan [] => none
  | m => some m

/-- A frame goes on behind an operation's result. -/
noncomputable def fin (fn nt : Nat) (tm : Tr AV) (todo : List Item) (defs : List ADef) (mode : AMode) (kind : CallKind) (d : Option Nat) (v : AV) : Option AFr :=
  match d with
  | none => some ⟨fn, nt, tm, todo, defs, mode, kind⟩
  | some d => bif Nat.blt d nt && Nat.blt d 1000000 then some ⟨fn, nt, tm.put 24 d (some v), todo, defs, mode, kind⟩ else none

noncomputable def mkSt (cs : List AFr) (h : AH) : Option AFr → Option ASt
  | some fr => some ⟨fr, cs, h⟩
  | none => none

noncomputable def recoverD1 (fn nt : Nat) (tm : Tr AV) (todo : List Item) (defs : List ADef) (mode : AMode) (kind : CallKind) (c : AFr) (cs : List AFr) (h : AH) (d : Option Nat) : Option ASt :=
  match c with
  | ⟨fn2, nt2, tm2, todo2, defs2, .pan ((v, false) :: older), kind2⟩ =>
    mkSt (⟨fn2, nt2, tm2, todo2, defs2, .pan ((v, true) :: older), kind2⟩ :: cs) h (fin fn nt tm todo defs mode kind d v)
  | ⟨_, _, _, _, _, .pan ((_, true) :: _), _⟩ => mkSt (c :: cs) h (fin fn nt tm todo defs mode kind d (.raw .nilIface))
  | ⟨_, _, _, _, _, .ret, _⟩ => mkSt (c :: cs) h (fin fn nt tm todo defs mode kind d (.raw .nilIface))
  | _ => none

noncomputable def recoverA (fn nt : Nat) (tm : Tr AV) (todo : List Item) (defs : List ADef) (mode : AMode) (kind : CallKind) (cs : List AFr) (h : AH) (d : Option Nat) : Option ASt :=
  match kind with
  | .normal => mkSt cs h (fin fn nt tm todo defs mode kind d (.raw .nilIface))
  | .deferred => (match cs with
    | c :: r => recoverD1 fn nt tm todo defs mode kind c r h d
    | [] => none)
  | _ => none

noncomputable def pushF (cs : List AFr) (h : AH) (fr : AFr) : Option AFr → Option ASt
  | some fr' => some ⟨fr', fr :: cs, h⟩
  | none => none

noncomputable def behind (P : Program) (orc : Orc) (fn nt : Nat) (tm : Tr AV) (todo now : List Item) (defs : List ADef) (mode : AMode) (kind : CallKind) (cs : List AFr) (d : Option Nat) : Option (ANx × AH) → Option ASt
  | none => none
  | some (.val v, h) => mkSt cs h (fin fn nt tm todo defs mode kind d v)
  | some (.skip, h) => mkSt cs h (fin fn nt tm todo defs mode kind d (.tuple []))
  | some (.enter f args, h) => (match orc f args h with
    | some (v, h') => mkSt cs h' (fin fn nt tm todo defs mode kind d v)
    | none => pushF cs h ⟨fn, nt, tm, now, defs, mode, kind⟩ (enterA P f args .normal))
  | some (.defer df, h) => mkSt cs h (fin fn nt tm todo (df :: defs) mode kind d (.tuple []))
  | some (.pan v, h) => some ⟨⟨fn, nt, tm, now, defs, raisedA mode [(v, false)], kind⟩, cs, h⟩
  | some (.recover, h) => recoverA fn nt tm todo defs mode kind cs h d

/-- Is the operation wanted, by its guard? -/
noncomputable def wantA (tm : Tr AV) (ops : Array Oper) : Option (Nat × Bool) → Option Bool
  | none => some true
  | some (j, want) => (match (ops[j]?).bind (·.dst) with
    | none => some false
    | some d => (match tm.get d with
      | some (.bool b) => some (b == want)
      | some (.tuple []) => some false
      | _ => none))

noncomputable def stepOp (P : Program) (G : Nat) (orc : Orc) (fn nt : Nat) (tm : Tr AV) (ops : Array Oper) (rest : List Nat) (k now : List Item) (defs : List ADef) (mode : AMode) (kind : CallKind) (cs : List AFr) (h : AH) : Option Oper → Option ASt
  | none => none
  | some o => (match wantA tm ops o.guard with
    | some true => behind P orc fn nt tm (.inRegion ops rest :: k) now defs mode kind cs o.dst (aop P (operandA G tm) o.op h)
    | some false => mkSt cs h (fin fn nt tm (.inRegion ops rest :: k) defs mode kind o.dst (.tuple []))
    | none => none)

noncomputable def go (cs : List AFr) (h : AH) (fn nt : Nat) (tm : Tr AV) (todo : List Item) (defs : List ADef) (mode : AMode) (kind : CallKind) : Option ASt :=
  some ⟨⟨fn, nt, tm, todo, defs, mode, kind⟩, cs, h⟩

/-! ### A region that draws its order: one walk in the text's order, and what makes all others come to the same -/
/-- What must have been done ahead of each operation, by the edges: a bit each. -/
noncomputable def maskOf (acc : List Nat) : List Edge → Nat
  | [] => 0
  | e :: l => bif Region.binds .any e then Nat.lor (Nat.lor (Nat.shiftLeft 1 e.on) (match acc[e.on]? with | some m => m | none => 0)) (maskOf acc l) else maskOf acc l
noncomputable def masksFrom (acc : List Nat) : List Oper → List Nat
  | [] => acc
  | o :: l => masksFrom (acc ++ [maskOf acc o.after.toList]) l
noncomputable def bitAt (M : List Nat) (i j : Nat) : Bool := match M[i]? with | some m => Nat.testBit m j | none => false
/-- Do the edges part the two? -/
noncomputable def parted (M : List Nat) (i j : Nat) : Bool := (Nat.blt j i && bitAt M i j) || (Nat.blt i j && bitAt M j i)
/-- May operation i read the slot? -/
noncomputable def okSlot (M : List Nat) (W : Tr Nat) (i t : Nat) : Bool := match W.get t with
  | some j => Nat.beq j i || parted M i j
  | none => true
noncomputable def loud (P : Program) (o : Oper) : Bool := match cls P o.op with | .l => true | _ => false
/-- Which call alone takes a slot, by a list of hints. -/
noncomputable def fdOf : List (Nat × Nat) → Nat → Option Nat
  | [], _ => none
  | (a, u) :: l, t => bif Nat.beq a t then some u else fdOf l t
/-- A new slice that is made for one call alone: it is laid where that call is. -/
noncomputable def isFl (FD : List (Nat × Nat)) (o : Oper) : Bool := match o.op, o.dst with
  | .buildSlice _ _ _, some d => (match fdOf FD d with | some _ => true | none => false)
  | _, _ => false
/-- May the operation turn the heap, in the abstract walk? -/
noncomputable def ld (P : Program) (FD : List (Nat × Nat)) (o : Oper) : Bool := bif isFl FD o then false else loud P o
noncomputable def loudsFrom (P : Program) (FD : List (Nat × Nat)) : List Oper → Nat → List Nat
  | [], _ => []
  | o :: l, i => bif ld P FD o then i :: loudsFrom P FD l (i + 1) else loudsFrom P FD l (i + 1)
/-- Do the edges part operation i from all that may turn the heap? -/
noncomputable def okHeap (M : List Nat) (i : Nat) : List Nat → Bool
  | [] => true
  | j :: l => (Nat.beq j i || parted M i j) && okHeap M i l
/-- Which operation writes a slot; and that no other one does. -/
noncomputable def writersFrom : List Oper → Nat → Tr Nat
  | [], _ => .nil
  | o :: l, i => (match o.dst with | some d => (writersFrom l (i + 1)).put 24 d (some i) | none => writersFrom l (i + 1))
noncomputable def isAt (i : Nat) : Option Nat → Bool
  | some j => Nat.beq j i
  | none => false
noncomputable def allW (W : Tr Nat) : List Oper → Nat → Bool
  | [], _ => true
  | o :: l, i => (match o.dst with | some d => isAt i (W.get d) | none => true) && allW W l (i + 1)
noncomputable def backs (i : Nat) : List Edge → Bool
  | [] => true
  | e :: l => (bif Region.binds .any e then Nat.blt e.on i else true) && backs i l
noncomputable def allBack : Nat → List Oper → Bool
  | _, [] => true
  | i, o :: l => backs i o.after.toList && allBack (i + 1) l

abbrev Sub := FuncId → List AV → AH → Option (AV × AH)
/-- What a call comes to: a value, or a panic. -/
inductive ARes where
  | val (v : AV)
  | pan (ch : List (AV × Bool))
abbrev SubX := FuncId → List AV → AH → Option (ARes × AH)
noncomputable def valOf (s : SubX) : Sub := fun f args h => match s f args h with
  | some (.val v, h') => some (v, h')
  | _ => none

noncomputable def putT (nt : Nat) (tm : Tr AV) (h : AH) (d : Option Nat) (v : AV) : Option (Tr AV × AH) :=
  match d with
  | none => some (tm, h)
  | some d => bif Nat.blt d nt && Nat.blt d 1000000 then some (tm.put 24 d (some v), h) else none

noncomputable def rhoD (G : Nat) (M : List Nat) (W : Tr Nat) (i : Nat) (tm : Tr AV) : Operand → Option AV
  | .tmp t => bif okSlot M W i t then tm.get t else none
  | x => operandA G tm x

noncomputable def wantD (M : List Nat) (W : Tr Nat) (ops : List Oper) (i : Nat) (tm : Tr AV) : Option (Nat × Bool) → Option Bool
  | none => some true
  | some (j, want) => (match (match ops[j]? with | some o => o.dst | none => none) with
    | none => some false
    | some d => bif okSlot M W i d then (match tm.get d with
      | some (.bool b) => some (b == want)
      | some (.tuple []) => some false
      | _ => none) else none)

/-- May operation f read the slot, wherever behind it one looks? -/
noncomputable def okB (M : List Nat) (W : Tr Nat) (f t : Nat) : Bool := match W.get t with
  | some j => Nat.blt j f && bitAt M f j
  | none => true
noncomputable def rhoB (G : Nat) (M : List Nat) (W : Tr Nat) (f : Nat) (tm : Tr AV) : Operand → Option AV
  | .tmp t => bif okB M W f t then tm.get t else none
  | x => operandA G tm x
noncomputable def wantB (M : List Nat) (W : Tr Nat) (ops : List Oper) (f : Nat) (tm : Tr AV) : Option (Nat × Bool) → Option Bool
  | none => some true
  | some (j, want) => (match (match ops[j]? with | some o => o.dst | none => none) with
    | none => some false
    | some d => bif okB M W f d then (match tm.get d with
      | some (.bool b) => some (b == want)
      | some (.tuple []) => some false
      | _ => none) else none)
/-- The row of a new slice. -/
noncomputable def aFresh (P : Program) (ρ : Operand → Option AV) : Op → Option (TypeId × Nat × List AV)
  | .buildSlice t len parts => (match noParts ρ parts.toList, P.underlying t with
    | some ps, some (.slice e) => (match sizeT P e, zeroT P e with
      | some size, some z => bif Nat.ble 1 (len * size) && Nat.ble (len * size) 1000000 && Nat.beq z.cells.length size then
          (match fillA (fun i => some (i * size, size)) (repeatA z.cells len) ps with
          | some r => bif r.all AV.one then some (e, len, r) else none
          | none => none) else none
      | _, _ => none)
    | _, _ => none)
  | _ => none
noncomputable def noTmp (t : Nat) : List Operand → Bool
  | [] => true
  | .tmp t' :: l => !Nat.beq t' t && noTmp t l
  | _ :: l => noTmp t l
noncomputable def upd (ρ : Operand → Option AV) (t : Nat) (v : AV) : Operand → Option AV
  | .tmp t' => bif Nat.beq t' t then some v else ρ (.tmp t')
  | x => ρ x
noncomputable def isDst (t : Nat) (o : Oper) : Bool := match o.dst with | some d => Nat.beq d t | none => false
/-- The new slices that a call takes are laid. -/
noncomputable def adoptL (P : Program) (G : Nat) (M : List Nat) (W : Tr Nat) (ops : List Oper) (FD : List (Nat × Nat)) (i : Nat) (tm : Tr AV) : List Operand → (Operand → Option AV) → AH → Option ((Operand → Option AV) × AH)
  | [], ρ, h => some (ρ, h)
  | .tmp t :: l, ρ, h => (match fdOf FD t with
    | none => adoptL P G M W ops FD i tm l ρ h
    | some u => bif Nat.beq u i && noTmp t l then (match W.get t with
      | some f => bif bitAt M i f then (match ops[f]? with
        | some fo => bif isFl FD fo && isDst t fo then (match wantB M W ops f tm fo.guard with
          | some true => (match aFresh P (rhoB G M W f tm) fo.op with
            | some (e, len, r) => (match h.alloc (.cells r e false 0) with
              | some (id, h') => adoptL P G M W ops FD i tm l (upd ρ t (.slice id 0 len len true)) h'
              | none => none)
            | none => none)
          | _ => none) else none
        | none => none) else none
      | none => none) else none)
  | _ :: l, ρ, h => adoptL P G M W ops FD i tm l ρ h
noncomputable def adopt (P : Program) (G : Nat) (M : List Nat) (W : Tr Nat) (ops : List Oper) (FD : List (Nat × Nat)) (i : Nat) (tm : Tr AV) (ρ : Operand → Option AV) (h : AH) : Op → Option ((Operand → Option AV) × AH)
  | .call c => adoptL P G M W ops FD i tm c.args.toList ρ h
  | _ => some (ρ, h)

noncomputable def putN (nt : Nat) (tm : Tr AV) (h : AH) : Option Nat → Option (Tr AV × AH)
  | some d => bif Nat.blt d nt && Nat.blt d 1000000 then some (tm.put 24 d none, h) else none
  | none => none

noncomputable def doD (P : Program) (sub : Sub) (ρ : Operand → Option AV) (nt : Nat) (tm : Tr AV) (h : AH) (o : Oper) (ok : Bool) (ad : Option ((Operand → Option AV) × AH)) : Option (Tr AV × AH) :=
  match cls P o.op with
  | .p => (match aPure P ρ o.op with
    | some (.val v) => putT nt tm h o.dst v
    | _ => none)
  | .r => (match aRead P ρ h o.op with
    | some (.val v) => putT nt tm h o.dst v
    | _ => none)
  | .l => bif ok then (match ad with
    | some (ρ', h0) => (match aLoud P ρ' h0 o.op with
      | some (.val v, h') => putT nt tm h' o.dst v
      | some (.skip, h') => putT nt tm h' o.dst (.tuple [])
      | some (.enter f args, h') => (match sub f args h' with
        | some (v, h'') => putT nt tm h'' o.dst v
        | none => none)
      | _ => none)
    | none => none) else none

noncomputable def exD (P : Program) (G : Nat) (sub : Sub) (M : List Nat) (W : Tr Nat) (L : List Nat) (ops : List Oper) (FD : List (Nat × Nat)) (nt i : Nat) (o : Oper) (tm : Tr AV) (h : AH) : Option (Tr AV × AH) :=
  bif isFl FD o then (match wantB M W ops i tm o.guard with
    | some true => (match aFresh P (rhoB G M W i tm) o.op with | some _ => putN nt tm h o.dst | none => none)
    | some false => putN nt tm h o.dst
    | none => none)
  else match wantD M W ops i tm o.guard with
  | some true => doD P sub (rhoD G M W i tm) nt tm h o (okHeap M i L) (adopt P G M W ops FD i tm (rhoD G M W i tm) h o.op)
  | some false => bif loud P o then (bif okHeap M i L then putT nt tm h o.dst (.tuple []) else none) else putT nt tm h o.dst (.tuple [])
  | none => none

/-- What an operation comes to: the state behind it, or a panic. -/
inductive XD where
  | st (s : Tr AV × AH)
  | pan (ch : List (AV × Bool)) (h : AH)
  | no
noncomputable def ofOpt : Option (Tr AV × AH) → XD
  | some s => .st s
  | none => .no
noncomputable def putX (nt : Nat) (tm : Tr AV) (h : AH) (d : Option Nat) (v : AV) : XD := match putT nt tm h d v with
  | some s => .st s
  | none => .no
noncomputable def doX (P : Program) (sub : SubX) (ρ : Operand → Option AV) (nt : Nat) (tm : Tr AV) (h : AH) (o : Oper) (ok : Bool) (ad : Option ((Operand → Option AV) × AH)) : XD :=
  match cls P o.op with
  | .p => (match aPure P ρ o.op with
    | some (.val v) => putX nt tm h o.dst v
    | some (.pan v) => bif ok then .pan [(v, false)] h else .no
    | _ => .no)
  | .r => (match aRead P ρ h o.op with
    | some (.val v) => putX nt tm h o.dst v
    | _ => .no)
  | .l => bif ok then (match ad with
    | some (ρ', h0) => (match aLoud P ρ' h0 o.op with
      | some (.val v, h') => putX nt tm h' o.dst v
      | some (.skip, h') => putX nt tm h' o.dst (.tuple [])
      | some (.enter f args, h') => (match sub f args h' with
        | some (.val v, h'') => putX nt tm h'' o.dst v
        | some (.pan ch, h'') => .pan ch h''
        | none => .no)
      | _ => .no)
    | none => .no) else .no
noncomputable def exX (P : Program) (G : Nat) (sub : SubX) (M : List Nat) (W : Tr Nat) (L : List Nat) (ops : List Oper) (FD : List (Nat × Nat)) (nt i : Nat) (o : Oper) (tm : Tr AV) (h : AH) : XD :=
  bif isFl FD o then ofOpt (match wantB M W ops i tm o.guard with
    | some true => (match aFresh P (rhoB G M W i tm) o.op with | some _ => putN nt tm h o.dst | none => none)
    | some false => putN nt tm h o.dst
    | none => none)
  else match wantD M W ops i tm o.guard with
  | some true => doX P sub (rhoD G M W i tm) nt tm h o (okHeap M i L) (adopt P G M W ops FD i tm (rhoD G M W i tm) h o.op)
  | some false => bif loud P o then (bif okHeap M i L then putX nt tm h o.dst (.tuple []) else .no) else putX nt tm h o.dst (.tuple [])
  | none => .no
/-- Do all operations from a place on wait for operation i? -/
noncomputable def afterAll (M : List Nat) (i : Nat) : List Oper → Nat → Bool
  | [], _ => true
  | _ :: l, j => bitAt M j i && afterAll M i l (j + 1)

/-- All states, in the text's order, the last one first; and the panic that ends them. -/
noncomputable def txtX (P : Program) (G : Nat) (sub : SubX) (M : List Nat) (W : Tr Nat) (L : List Nat) (ops : List Oper) (FD : List (Nat × Nat)) (nt : Nat) : List Oper → Nat → Tr AV × AH → List (Tr AV × AH) → Option (List (Tr AV × AH) × Option (List (AV × Bool) × AH))
  | [], _, s, acc => some (s :: acc, none)
  | o :: l, i, s, acc => (match exX P G sub M W L ops FD nt i o s.1 s.2 with
    | .st s' => txtX P G sub M W L ops FD nt l (i + 1) s' (s :: acc)
    | .pan ch h => bif afterAll M i l (i + 1) then some (s :: acc, some (ch, h)) else none
    | .no => none)

noncomputable def sEq : AV → AV → Bool
  | .bool a, .bool b => a == b
  | .int j a, .int k b => j == k && a == b
  | .str a, .str b => lb a b
  | .ptr i o, .ptr j p => Nat.beq i j && Nat.beq o p
  | .slice i o l c e, .slice j p m d f => Nat.beq i j && Nat.beq o p && Nat.beq l m && Nat.beq c d && e == f
  | .map i, .map j => Nat.beq i j
  | .raw .nilIface, .raw .nilIface => true
  | .raw .nilFunc, .raw .nilFunc => true
  | .raw (.pointer none), .raw (.pointer none) => true
  | .raw (.map none), .raw (.map none) => true
  | .raw (.slice none a b), .raw (.slice none c d) => Nat.beq a c && Nat.beq b d
  | _, _ => false
noncomputable def sEqs : List AV → List AV → Bool
  | [], [] => true
  | a :: l, b :: m => sEq a b && sEqs l m
  | _, _ => false
noncomputable def avEq : AV → AV → Bool
  | .agg a, .agg b => sEqs a b
  | .iface t a, .iface u b => Nat.beq t u && sEq a b
  | a, b => sEq a b

/-- The operation reads the same in each heap that it may meet. -/
noncomputable def sameRead (P : Program) (ρ : Operand → Option AV) (o : Op) (M : List Nat) (i : Nat) (L : List Nat) (v : AV) : List (Tr AV × AH) → Nat → Bool
  | [], _ => true
  | s :: l, k => (bif L.all (fun j => !(parted M i j) || (bif Nat.blt j i then Nat.blt j k else Nat.ble k j)) then (match aRead P ρ s.2 o with
    | some (.val u) => avEq u v
    | _ => false) else true) && sameRead P ρ o M i L v l (k + 1)

noncomputable def chkR (P : Program) (G : Nat) (M : List Nat) (W : Tr Nat) (L : List Nat) (ops : List Oper) (tr : List (Tr AV × AH)) : List Oper → List (Tr AV × AH) → Nat → Bool
  | o :: l, s :: r, i => (match cls P o.op with
    | .r => bif okHeap M i L then true else (match wantD M W ops i s.1 o.guard with
      | some true => (match aRead P (rhoD G M W i s.1) s.2 o.op with
        | some (.val v) => sameRead P (rhoD G M W i s.1) o.op M i L v tr 0
        | _ => false)
      | _ => true)
    | _ => true) && chkR P G M W L ops tr l r (i + 1)
  | _, _, _ => true

inductive RX where
  | st (s : Tr AV × AH)
  | pan (ch : List (AV × Bool)) (s : Tr AV × AH)
  | no
/-- The slots without those that the operations write. -/
noncomputable def clearT : List Oper → Tr AV → Option (Tr AV)
  | [], tm => some tm
  | o :: l, tm => (match o.dst with
    | some d => bif Nat.blt d 1000000 then clearT l (tm.put 24 d none) else none
    | none => clearT l tm)
noncomputable def lastX (ops : List Oper) (tm : Tr AV) : List (Tr AV × AH) → Option (List (AV × Bool) × AH) → Bool → RX
  | s :: _, none, true => .st s
  | _ :: _, some (ch, h), true => (match clearT ops tm with
    | some tm' => .pan ch (tm', h)
    | none => .no)
  | _, _, _ => .no

noncomputable def runF (P : Program) (G : Nat) (sub : SubX) (ops : List Oper) (FD : List (Nat × Nat)) (nt : Nat) (tm : Tr AV) (h : AH) : RX :=
  bif allW (writersFrom ops 0) ops 0 && allBack 0 ops then
    (match txtX P G sub (masksFrom [] ops) (writersFrom ops 0) (loudsFrom P FD ops 0) ops FD nt ops 0 (tm, h) [] with
    | some (tr, e) => lastX ops tm tr e (chkR P G (masksFrom [] ops) (writersFrom ops 0) (loudsFrom P FD ops 0) ops tr.reverse ops tr.reverse 0)
    | none => .no) else .no
/-- The slots that new slices are put in. -/
noncomputable def freshDsts : List Oper → List Nat
  | [] => []
  | o :: l => (match o.op, o.dst with
    | .buildSlice _ _ _, some d => d :: freshDsts l
    | _, _ => freshDsts l)
noncomputable def tmpsIn (D : List Nat) (u : Nat) : List Operand → List (Nat × Nat)
  | [] => []
  | .tmp t :: l => bif D.any (fun d => Nat.beq d t) then (t, u) :: tmpsIn D u l else tmpsIn D u l
  | _ :: l => tmpsIn D u l
noncomputable def hintsFrom (D : List Nat) : List Oper → Nat → List (Nat × Nat)
  | [], _ => []
  | o :: l, i => (match o.op with
    | .call c => tmpsIn D i c.args.toList ++ hintsFrom D l (i + 1)
    | _ => hintsFrom D l (i + 1))
/-- In the text's order; where that is not enough: each new slice where the call is that takes it. -/
noncomputable def runX (P : Program) (G : Nat) (sub : SubX) (ops : List Oper) (nt : Nat) (tm : Tr AV) (h : AH) : RX :=
  match runF P G sub ops [] nt tm h with
  | .no => runF P G sub ops (hintsFrom (freshDsts ops) ops 0) nt tm h
  | r => r

noncomputable def stepCode (G : Nat) (fn nt : Nat) (tm : Tr AV) (k : List Item) (defs : List ADef) (kind : CallKind) (cs : List AFr) (h : AH) : Code → Option ASt
  | .ret => go cs h fn nt tm (.code .ret :: k) defs .ret kind
  | .skip => go cs h fn nt tm k defs .run kind
  | .label _ => go cs h fn nt tm k defs .run kind
  | .seq a b => go cs h fn nt tm (.code a :: .code b :: k) defs .run kind
  | .cond c x y => (match operandA G tm c with
    | some (.bool b) => go cs h fn nt tm (.code (bif b then x else y) :: k) defs .run kind
    | _ => none)
  | .block id c => go cs h fn nt tm (.code c :: .inBlock id :: k) defs .run kind
  | .loop c => go cs h fn nt tm (.code c :: .inLoop c :: k) defs .run kind
  | .exit id => (match exitTo id k with | some k' => go cs h fn nt tm k' defs .run kind | none => none)
  | .region _ ops false => go cs h fn nt tm (.inRegion ops (List.range ops.size) :: k) defs .run kind
  | _ => none

noncomputable def drawnOf : Code → Option (Array Oper)
  | .region _ ops true => some ops
  | _ => none

noncomputable def behindX (fn nt : Nat) (todo k : List Item) (defs : List ADef) (kind : CallKind) (cs : List AFr) : RX → Option ASt
  | .st (tm, h) => go cs h fn nt tm k defs .run kind
  | .pan ch (tm, h) => some ⟨⟨fn, nt, tm, todo, defs, .pan ch, kind⟩, cs, h⟩
  | .no => none

noncomputable def stepRun (P : Program) (G : Nat) (orc : Orc) (sub : SubX) (fn nt : Nat) (tm : Tr AV) (todo : List Item) (defs : List ADef) (kind : CallKind) (cs : List AFr) (h : AH) : Option ASt :=
  match todo with
  | [] => go cs h fn nt tm todo defs .ret kind
  | .inRegion ops (i :: rest) :: k => stepOp P G orc fn nt tm ops rest k todo defs .run kind cs h ops[i]?
  | .inRegion _ [] :: k => go cs h fn nt tm k defs .run kind
  | .code c :: k => (match drawnOf c with
    | some ops => behindX fn nt todo k defs kind cs (runX P G sub ops.toList nt tm h)
    | none => stepCode G fn nt tm k defs kind cs h c)
  | .inBlock _ :: k => go cs h fn nt tm k defs .run kind
  | .inLoop c :: k => go cs h fn nt tm (.code c :: .inLoop c :: k) defs .run kind
  | _ => none

noncomputable def callDef (P : Program) (fr : AFr) (cs : List AFr) (h : AH) (d : ADef) : Option ASt :=
  match d with
  | ⟨.func f, cap, args⟩ => pushF cs h fr (enterA P f (args ++ cap) .deferred)
  | _ => none

noncomputable def backTo (c : AFr) (cs : List AFr) (h : AH) (kind : CallKind) : Option AV → Option ASt
  | none => none
  | some v => (match kind with
    | .normal => (match c with
      | ⟨fn, nt, tm, .inRegion ops (i :: rest) :: k, defs, .run, kind⟩ => mkSt cs h (fin fn nt tm (.inRegion ops rest :: k) defs .run kind ((ops[i]?).bind (·.dst)) v)
      | _ => none)
    | .deferred => (match c with
      | ⟨fn, nt, tm, todo, defs, mode, kind⟩ => (match settleA mode with
        | some m => some ⟨⟨fn, nt, tm, todo, defs, m, kind⟩, cs, h⟩
        | none => none))
    | _ => none)

noncomputable def astep (P : Program) (G : Nat) (orc : Orc) (sub : SubX) (s : ASt) : Option ASt :=
  match s with
  | ⟨⟨fn, nt, tm, todo, defs, .run, kind⟩, cs, h⟩ => stepRun P G orc sub fn nt tm todo defs kind cs h
  | ⟨⟨fn, nt, tm, todo, d :: ds, mode, kind⟩, cs, h⟩ => callDef P ⟨fn, nt, tm, todo, ds, mode, kind⟩ cs h d
  | ⟨⟨fn, _, tm, _, [], .ret, kind⟩, c :: cs, h⟩ => backTo c cs h kind (resultsA P h fn tm)
  | ⟨⟨fn1, _, _, _, [], .pan ch, _⟩, ⟨fn, nt, tm, todo, defs, mode, kind⟩ :: cs, h⟩ => (match P.funcs[fn1]? with
    | some _ => some ⟨⟨fn, nt, tm, todo, defs, raisedA mode ch, kind⟩, cs, h⟩
    | none => none)
  | _ => none

/-- Has all ended? -/
noncomputable def ended (s : ASt) : Bool := match s with
  | ⟨⟨_, _, _, _, [], .ret, _⟩, [], _⟩ => true
  | ⟨⟨_, _, _, _, [], .pan _, _⟩, [], _⟩ => true
  | _ => false

noncomputable def outcome (P : Program) (f : FuncId) : Option ASt → Option (ARes × AH)
  | some ⟨⟨fn, _, tm, _, _, .ret, .normal⟩, _, h⟩ => bif Nat.beq fn f then (match resultsA P h fn tm with | some v => some (.val v, h) | none => none) else none
  | some ⟨⟨fn, _, _, _, _, .pan ch, _⟩, _, h⟩ => bif Nat.beq fn f then (match P.funcs[fn]? with | some _ => some (.pan ch, h) | none => none) else none
  | _ => none

/-- A call, made by what runs a machine to its end. -/
noncomputable def callBy (P : Program) (run : ASt → Option ASt) (f : FuncId) (args : List AV) (h : AH) : Option (ARes × AH) :=
  match enterA P f args .normal with
  | none => none
  | some fr => outcome P f (run ⟨fr, [], h⟩)

noncomputable def subOf (P : Program) (orc : Orc) (run : ASt → Option ASt) : SubX := fun f args h =>
  match orc f args h with
  | some (v, h') => some (.val v, h')
  | none => callBy P run f args h

noncomputable def arun (P : Program) (G : Nat) (orc : Orc) (n : Nat) : ASt → Option ASt :=
  Nat.rec (motive := fun _ => ASt → Option ASt) (fun _ => none)
    (fun _ go s => match ended s with
      | true => some s
      | false => match astep P G orc (subOf P orc go) s with
        | some s' => go s'
        | none => none) n

noncomputable def acall (P : Program) (G : Nat) (orc : Orc) (fuel : Nat) (f : FuncId) (args : List AV) (h : AH) : Option (AV × AH) :=
  valOf (callBy P (arun P G orc fuel)) f args h

noncomputable def isTrue : Option (AV × AH) → Bool
  | some (.bool b, _) => b
  | _ => false
end Go.Ev
