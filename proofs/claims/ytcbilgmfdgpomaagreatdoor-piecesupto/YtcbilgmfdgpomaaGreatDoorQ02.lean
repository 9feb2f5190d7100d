import Derived.Test.YtcbilgmfdgpomaaGreatDoorQ01
set_option linter.all false
open Array renaming size → iS,size → M
set_option maxHeartbeats 10000000
open Option renaming some → ni,none → su
open Go renaming Value → w8,TypeId → mi,Program → vg,World → qg,Addr → rj,MapEntry → nd,BinOp → N,Event → yn,TypeDesc → xz,Value → T,TypeId → Z,Addr → E,World → q,Program → I,Operand → O
open Bool renaming true → tu,false → o9
open Go.Extern.BytealgIndexByte renaming indexByte → mm
open Go.Extern.BytealgCompare renaming compare → x9
open Go.Builtin renaming zeroCells → yy,unsafeAdd_ → ic,append_ → o7,delete_ → wi,copy_ → uo,firstCells → ur,min2 → qk,max2 → og,min_ → hh,max_ → s8,len_ → pw,cap_ → vy,mayShare → qv
open Go.World renaming cell? → sw,shape? → zj
open Go.Extern.BytealgCount renaming count → q8
open Go.Extern.BytealgIndex renaming index → jq
open Go.Op renaming equal → gy,floatArith → ko,floatCmp → qn,complexOp → uy,stringOp → xi,equalIn → wh,shift → y8,eqGuardIn → zl,maxDepth → ly,intArith → mq
open Go.Conv renaming bytesToString → jh,floatToInt → zz,stringToBytes → lu,runesToString → xj
open Go.Extern.Bytes renaming loadBytes → qy,bytesOf → pe,asByte → kt
open Go.Op.Complex renaming sub → ze,mul → lh,add → xd,corrected → iu,quotient → vo,product → zr,arith → ky,conv → xl,cmp → qf
open Go.Next renaming value → pt
open Go.Deferred renaming ofValue → uj
variable {F:O->T}{H:hY}{L X:Array yn}{P:I}{U v w:q}{a b c d:Type}{cs z:iB}{e:yn}{i j r:Nat}{m:String}{p:Prop}{t:Z}{x y:T}
def Eji(h:p:=by
 cases o with
 |cells c a b=>exact absurd iP (z c a b)
 |_=>cases I with
  |cells c a b=>exact absurd iP (j c a b)
  |_=>rfl):p:=h
def Ndn(h:p:=by
 cases D:v.1[a.block]? with
 |none=>exact⟨_,iP,trivial⟩
 |some o=>
  have:=h _ _ D;cases o<;>first|exact⟨_,iP,trivial⟩|exact this.elim):p:=h
def Dn7(h:p:=by
 cases Instr.fill _ z.cells a.toList with
 |none=>exact Rf.stuck
 |some cs=>exact Rf.pure Ad):p:=h
def Pn6(h:p:=by
 rw[S];cases Instr.fill _ _ b.toList with
 |none=>exact Rf.stuck
 |some cs=>exact Rf.bind (Rf.newRow _ _) λ_=>Rf.pure Ad):p:=h
def C65(h:p:=by
 repeat' split
 all_goals first|exact Rf.bind (Rf.sizeOf _) λ_=>Rf.pure (by simp[Km])|exact Rf.unsup|exact Rf.bp):p:=h
def Dom(h:p:=by
 refine Rf.bind (Rf.firstCells _ _ _) λh=>?_;cases a with
 |none=>exact Rf.pure Ad
 |some i=>
  simp only[aI,bT];rw[←Km];exact Rf.bind (Rf.storeCells _ _ _) λ_=>Rf.pure Ad):p:=h
def A0p(h:p:=by
 refine Rf.bind (Rf.typeInfo e) λT=>?_;simp only[id];split
 ·exact Rf.never (D8 (Jx _))
 ·refine Rf.bind (Rf.typeInfo e) λo=>?_;simp only[id];split
  ·exact Rf.never (D8 (Gs (Qh _ _ _ _ _) λ_=>by
    split
    ·exact Gs (Tm _) λ_=>Cz iP trivial
    ·exact Cz iP trivial))
  ·have b:=Rf.firstCells (P:=P) (n:=n) (H:=H) g l (.slice a l f);rw[Bo]at b;exact Rf.bind (Rf.choose _) λp=>Rf.bind (Rf.typeInfo e) λ_=>Rf.bind (Rf.askRoom _) λ_=>Rf.bind b λI=>Rf.bind (Rf.firstCells _ _ _) λh=>Rf.zeroCellsOf N e λz B=>Rf.bind (VA N _ _ _ _ B) λ_=>Rf.pure Ad):p:=h
def Lmf(h:p:=by
 exact Rf.bind (Rf.byteOf _) λ_=>Rf.bind (Rf.byteOf _) λ_=>Rf.pure iP):p:=h
def Rku(h:p:=by
 refine Rf.shapeThen r (λs=>?_) (λe=>.inr λm=>rfl);split
 ·exact Rf.pure iP
 ·refine Rf.getObjThen r (λo _=>?_) (λo I O G=>?_)
  ·cases o<;>exact Rf.pure iP
  ·obtain⟨_,_,_,_,_,_,rfl⟩:=He O;obtain⟨_,_,_,_,_,_,rfl⟩:=He G;exact Rf.pure iP):p:=h
def A9z(h:p:=by
 split<;>first|exact Rf.stuck|exact Rf.pure Ad):p:=h
def Tqo(h:p:=by
 refine Rf.ite (Rf.pure iP) (Rf.bind h λr=>?_);simp only[id];exact Rf.ite Rf.unsup (Rf.pure iP)):p:=h
def Th6(h:p:=by
 cases a with
 |none=>exact Rf.unsup
 |some a=>exact Rf.bind (Rf.behindNumber a) λ_=>Rf.addrMod _ _ _):p:=h
def Ybg(h:p:=by
 cases f
 case eql=>exact Rf.boolOf (h (.inl iP))
 case neq=>exact Rf.notOf (h (.inr iP))
 all_goals first|exact Rf.unsup|(cases b<;>exact Rf.unsup)):p:=h
def Xjm(h:p:=by
 simp only[Ct,Bz,B1,B0,Bc,B3,Bt,Bo,Db,Dh,Cn,Cf,Cc,Cd,A8]at h⊢;cases f
 case eql=>exact Rf.boolOf (h (.inl iP))
 case neq=>exact Rf.notOf (h (.inr iP))
 all_goals exact Rf.stuck):p:=h
def Ufm(h:p:=by
 cases x with
 |int t i=>rw[Bz];cases t<;>first|exact Rf.stuck|exact Rf.pure iP
 |_=>exact Rf.stuck):p:=h
def R8k(h:p:=by
 refine Rf.bind (Rf.underlying e) λd=>?_;simp only[id];cases d<;>first|exact Rf.stuck|exact Rf.pure Vw):p:=h
def S2t(h:p:=by
 cases y with
 |int q b=>rw[Bz,Bz];exact Rf.pure Ad
 |pointer b=>cases b<;>first|exact Rf.unsup|exact Rf.stuck
 |_=>exact Rf.stuck):p:=h
def Gan(h:p:=by
 dsimp only;generalize k.format.order a b=o;cases o with
 |none=>exact Rf.bind (Rf.choose _) λ_=>Rf.pure Ad
 |some o=>cases o<;>exact Rf.pure Ad):p:=h
def Pyg(h:p:=by
 cases y with
 |string b=>
  rw[Bc,Bc];exact Rf.bind (Rf.stringOp _ _ _) λr=>Rf.bind (Rf.asBool r) λb=>Rf.pure Ad
 |pointer b=>cases b<;>first|exact Rf.unsup|exact Rf.stuck
 |_=>exact Rf.stuck):p:=h
def Ewc(h:p:=by
 rwa[fU,eI,fU,eI]):p:=h
def Tfi(h:p:=by
 simp only[aS]at h;rw[B b h.1.1.1,B d h.1.1.2,B c h.1.2];exact JH (Vm p _ _ _ _ h.2)):p:=h
namespace Go.Pair
variable {S:FuncId→Bool}{o:Obj}{s:Sem Bool}
open Go Go.Conc
structure Ren where
 f:Nat->Nat
 inj:∀{i j},f i=f j->i=j
def Ren.Fix(n:Ren)(G:Nat):Prop:=∀i,i<G->n.f i=i
def sh(n:Ren)(i:Nat):Nat:=n.f i
def Gx{n}(h:sh n i=sh n j):=n.inj h
def Al8{n}:sh n i=sh n j↔i=j:=⟨Gx,λh=>by rw[h]⟩
def Ei(n:Ren)(a:E):E:={ a with block:=sh n a.block }
def Aif{n a b}(h:Ei n a=Ei n b):a=b:=by
 cases a;cases b;simp only[Ei,Addr.mk.injEq]at h;simp only[Addr.mk.injEq];exact⟨Gx h.1,h.2⟩
def Km(n a k):Ei n (a.add k)=(Ei n a).add k:=by unfold Addr.add;split<;>rfl
def Mp(n:Ren):Fn->Fn
 |.yield l=>.yield (sh n l)
 |f=>f
def A1(n:Ren):T->T
 |.pointer a=>.pointer (a.map (Ei n))
 |.slice a l c=>.slice (a.map (Ei n)) l c
 |.map r=>.map (r.map (sh n))
 |.chan r=>.chan (r.map (sh n))
 |.func f a b=>.func (Mp n f) (a.map (A1 n)) (b.map (A1 n))
 |.iface t v=>.iface t (A1 n v)
 |.agg cs=>.agg (cs.map (A1 n))
 |.tuple vs=>.tuple (vs.map (A1 n))
 |.bool b=>.bool b
 |.int k i=>.int k i
 |.float k b=>.float k b
 |.complex k x y=>.complex k x y
 |.string s=>.string s
 |.nilFunc=>.nilFunc
 |.nilIface=>.nilIface
section
variable (n:Ren)
@[simp] theorem A8(a):A1 n (.pointer a)=.pointer (a.map (Ei n)):=by rw[A1]
@[simp] theorem Bo(a l c):A1 n (.slice a l c)=.slice (a.map (Ei n)) l c:=by rw[A1]
@[simp] theorem Db(r):A1 n (.map r)=.map (r.map (sh n)):=by rw[A1]
@[simp] theorem Dh(r):A1 n (.chan r)=.chan (r.map (sh n)):=by rw[A1]
@[simp] theorem Cn(f a b):A1 n (.func f a b)=.func (Mp n f) (a.map (A1 n)) (b.map (A1 n)):=by rw[A1]
@[simp] theorem Cf(t v):A1 n (.iface t v)=.iface t (A1 n v):=by rw[A1]
@[simp] theorem Cc(c):A1 n (.agg c)=.agg (c.map (A1 n)):=by rw[A1]
@[simp] theorem Cd(c):A1 n (.tuple c)=.tuple (c.map (A1 n)):=by rw[A1]
@[simp] theorem Ct(b):A1 n (.bool b)=.bool b:=by rw[A1]
@[simp] theorem Bz(k i):A1 n (.int k i)=.int k i:=by rw[A1]
@[simp] theorem B1(k i):A1 n (.float k i)=.float k i:=by rw[A1]
@[simp] theorem B0(k i j):A1 n (.complex k i j)=.complex k i j:=by rw[A1]
@[simp] theorem Bc(s):A1 n (.string s)=.string s:=by rw[A1]
@[simp] theorem B3:A1 n .nilFunc=.nilFunc:=by rw[A1]
@[simp] theorem Bt:A1 n .nilIface=.nilIface:=by rw[A1]
end
def Ke(n v):(A1 n v).cells=v.cells.map (A1 n):=by cases v<;>simp[Value.cells]
def Wz(n:Ren):Target->Target
 |.fn f c=>.fn (Mp n f) (c.map (A1 n))
 |.collected r=>.collected (sh n r)
 |t=>t
def O6(n:Ren)(d:Deferred):Deferred:=⟨Wz n d.target,d.args.map (A1 n)⟩
def Iz(n:Ren)(x:nd):nd:=⟨A1 n x.key,A1 n x.val,x.born⟩
def Dt(n:Ren):Obj->Obj
 |.cells c e fz=>.cells (c.map (A1 n)) e fz
 |.pending c e=>.pending (c.map (A1 n)) e
 |.view a t=>.view (Ei n a) t
 |.number a b=>.number (Ei n a) b
 |.map es ck=>.map (es.map (Iz n)) ck
 |.chan cap buf cl s r t=>.chan cap (buf.map (A1 n)) cl s r t
 |.stringIter s p=>.stringIter s p
 |.mapIter m si se st=>.mapIter (m.map (sh n)) si se st
 |.loop l=>.loop { l with tmps:=l.tmps.map (A1 n),defers:=sh n l.defers }
 |.deferred cs=>.deferred (cs.map (List.map (O6 n)))
 |.coro p=>.coro p
 |.finalizers fs r=>.finalizers (fs.map λx=>(sh n x.1,O6 n x.2)) r
def Gg(n:Ren):Loc->Loc
 |.cell a=>.cell (Ei n a)
 |.obj r=>.obj (sh n r)
 |l=>l
def Kt(n:Ren)(e:yn):yn:={ e with loc:=Gg n e.loc }
def Fb(J:hZ)(e:yn):Prop:=J e.loc->(∃r,e.loc=.obj r)/\e.write=o9/\e.sync=tu
def Fb.cell{J a x y}(h:Fb J ⟨.cell a,x,y⟩):¬J (.cell a):=λl=>by have ⟨⟨r,e⟩,_⟩:=h l;cases e
def Cl{J}(h:¬J e.loc):Fb J e:=λl=>absurd l h
def Ci(o:Obj):Prop:=∀c e fz,o≠.cells c e fz
def Hh{n}(h:Ci o):Ci (Dt n o):=by
 cases o with
 |cells c e a=>exact absurd iP (h c e a)
 |_=>exact λ_ _ _ e=>BB
def LikeO(n:Ren)(J:hZ)(i:Nat)(o o':Obj):Prop:=
 o'=Dt n o ∨
 (∃c c' e fz,o=.cells c e fz/\o'=.cells c' e fz/\c'.size=c.size/\∀j,¬J (.cell (iK i j))->c'[j]?=(c[j]?).map (A1 n)) ∨
 ((J (.obj i)/\o'.isChan=o.isChan)/\Ci o/\Ci o') ∨
 ∃c' e fz,o=.cells #[] e fz/\o'=.cells c' e fz
structure Sm(n t J)(v w:qg):Prop where
 top:∀j,iS v.1+j<t->sh n (iS v.1+j)=iS w.1+j
 lt:∀i,i<iS v.1->sh n i<iS w.1
 out:∀i,iS v.1<=i->iS w.1<=sh n i
 like:∀i(o:Obj),v.1[i]?=ni o->∃o',w.1[sh n i]?=ni o'/\LikeO n J i o o'
 tape:w.tape=v.tape
 drawn:w.drawn=v.drawn
 os:w.os=v.os
 output:w.output=v.output
structure Da(w w':qg)(es:Array yn):Prop where
 size:iS w.1<=iS w'.1
 cell:∀a:rj,a.block<iS w.1->(∀e∈es,e.write=tu->e.loc≠.cell a)->w'.cell? a=w.cell? a
 obj:∀r(o:Obj),w.1[r]?=ni o->Ci o->(∀e∈es,e.write=tu->e.loc≠.obj r)->w'.1[r]?=ni o
 row:∀(r:Nat)(c:iB)e(fz:Nat×Nat),w.1[r]?=ni (.cells c e fz)->∃c',w'.1[r]?=ni (.cells c' e fz)/\c'.size=c.size
 nrow:∀(r:Nat)o,w.1[r]?=ni o->Ci o->∃o',w'.1[r]?=ni o'/\Ci o'/\o'.isChan=o.isChan
 tape:w'.tape=w.tape
 os:w'.os=w.os
 output:w'.output=w.output
def Da.refl(w X):Da w w X:=⟨aB _,λ_ _ _=>rfl,λ_ _ h _ _=>h,λ_ c _ _ h=>⟨c,h,iP⟩,λ_ o h z=>⟨o,h,z,iP⟩,iP,iP,iP⟩
def Da.trans{a b c}(h:Da a b X)(P:Da b c L):Da a c (X++L):=by
 refine⟨aF h.size P.size,λx Z z=>?_,λr o O M z=>(P.obj r o (h.obj r o O M λe N=>z e (by simp[N])) M λe N=>z e (by simp[N])),λr x e d Y=>?_,λr o O M=>?_,P.tape.trans h.tape,P.os.trans h.os,P.output.trans h.output⟩
 ·rw[P.cell x (aC Z h.size) λe N=>z e (by simp[N]),h.cell x Z λe N=>z e (by simp[N])]
 ·have ⟨g,S,l⟩:=h.row r x e d Y;have ⟨H,f,R⟩:=P.row r g e d S
  grind
 ·have ⟨K,S,J,i⟩:=h.5 r o O M;have ⟨I,f,u,k⟩:=P.5 r K S J
  grind
def Da.mono{a b}(h:Da a b X)(s:∀e∈X,e.write=tu->e∈L):Da a b L:=
 ⟨h.size,λx Z z=>h.cell x Z λe N W=>z e (s e N W) W,λr o O M z=>h.obj r o O M λe N W=>z e (s e N W) W,h.row,h.5,h.tape,h.os,h.output⟩
def Wj(h:Array Obj)(o i):(h.push o)[i]?=if i=h.size then ni o else h[i]?:=by
 rw[Array.getElem?_push]
def heap_setCell(v:q)(a x i):(v.setCell a x).1[i]?=if i=a.block then(v.1[i]?).map (fun|.cells c b frozen=>.cells (if a.3.isSome then c else c.setIfInBounds a.off x) b frozen|o=>o) else v.1[i]?:=by
 unfold World.setCell
 grind
def size_setCell(v:q)(a x):(v.setCell a x).1.size=M v.1:=by simp[World.setCell]
def Plain(v:q):Prop:=∀(i:Nat)o,v.1[i]?=ni o->Va o
def Tw{v}(h:Plain v)(O:Va o):Plain { v with heap:=v.1.push o }:=by
 intro i x Z;simp only[Wj]at Z;split at Z
 ·grind
 ·exact h i x Z
def Kk(h:Plain v)(a x):Plain (v.setCell a x):=by
 intro i o O;rw[heap_setCell]at O;split at O
 ·obtain⟨y,U,rfl⟩:=bB.1 O;have:=h _ _ U;cases y<;>simp_all[Va]
 ·exact h i o O
def HB:Halt->Prop
 |.stuck _=>True
 |.unsupported (.initOrder _)=>False
 |.unsupported _=>True
 |.panic _=>True
 |_=>False
def Sl{P}(h:Plain v)(a b):∃x,v.farLoad P a b=.error x/\HB x:=by
 unfold World.farLoad World.noCell;exact Ndn
def Qf{P}(h:Plain v)(a x b):∃y,v.farStore P a x b=.error y/\HB y:=by
 unfold World.farStore World.noCell;exact Ndn
section
variable {n:Ren} {t:Nat} {J:hZ} {e:q}
def Sm.cell(h:Sm n t J v e){a x}(M:v.cell? a=ni x)(l:¬J (.cell a)):e.cell? (Ei n a)=ni (A1 n x):=by
 have ⟨i,j,s⟩:=a;unfold sw at M⊢
 show(match e.1[sh n i]? with|some (.cells c _ _)=>if s.isSome then su else c[j]?|_=>su)=_;cases q:v.1[i]? with
 |none=>simp[q]at M
 |some o=>
  have ⟨I,G,K⟩:=h.4 i o q;rw[G];simp only[q]at M;cases o with
  |cells c S r=>
   cases s with
   |some s=>simp at M
   |none=>
    simp only[eY,aR,bQ]at M⊢;rcases K with rfl|⟨Q,B,b,R,L,rfl,d,U⟩|⟨_,z,_⟩|D
    ·simp[Dt,M]
    ·grind
    ·exact absurd iP (z c S r)
    grind
  |_=>simp at M
def Sm.frozen(h:Sm n t J v e)(d)(f:d.block<M v.1):e.frozen? (Ei n d)=v.frozen? d:=by
 unfold World.frozen?
 show(match e.1[sh n d.block]? with|some (.cells _ _ (s,V))=>decide _&&decide _|_=>o9)=_;have q:=aO f;generalize v.1[d.block]=o at q;have ⟨I,G,K⟩:=h.4 _ o q;rw[q,G];rcases K with rfl|⟨Q,B,S,R,rfl,rfl,_⟩|⟨_,z,j⟩|⟨B,E,H,rfl,rfl⟩
 ·cases o<;>rfl
 ·rfl
 ·exact Eji
 ·rfl
def Sm.obj(h:Sm n t J v e){r o}(O:v.1[r]?=ni o)(M:Ci o)(Y:¬J (.obj r)):e.1[sh n r]?=ni (Dt n o):=by
 have ⟨I,G,K⟩:=h.4 r o O;rcases K with rfl|⟨Q,B,S,R,rfl,_⟩|⟨l,_⟩|⟨B,E,H,rfl,rfl⟩
 ·exact G
 ·exact absurd iP (M Q S R)
 ·exact absurd l.1 Y
 ·exact absurd iP (M _ _ _)
def Od(n o):(Dt n o).isChan=o.isChan:=by cases o<;>rfl
def Sm.objAny(h:Sm n t J v e)(O:v.1[r]?=ni o)(M:Ci o):∃I,e.1[sh n r]?=ni I/\Ci I/\I.isChan=o.isChan/\(¬J (.obj r)->I=Dt n o):=by
 have ⟨I,G,K⟩:=h.4 r o O;refine⟨I,G,?_⟩;rcases K with rfl|⟨Q,B,S,R,rfl,_⟩|⟨l,_,z⟩|⟨B,E,H,rfl,rfl⟩
 ·exact⟨Hh M,Od n o,λ_=>rfl⟩
 ·exact absurd iP (M Q S R)
 ·grind
 ·exact absurd iP (M _ _ _)
def Sm.drew(h:Sm n t J v e):Sm n t J { v with drawn:=v.drawn+1 } { e with drawn:=e.drawn+1 }:=⟨h.top,h.lt,h.out,h.4,h.tape,by rw[h.drawn],h.os,h.output⟩
def Sm.at(h:Sm n t J v e)(d):Sm n t J (v.at d) (e.at d):=⟨h.top,h.lt,h.out,h.4,h.tape,iP,h.os,h.output⟩
def Sm.push(h:Sm n t J v e)(R:M v.1<t)(o):Sm n t J { v with heap:=v.1.push o } { e with heap:=e.1.push (Dt n o) }:=by
 have F:sh n v.1.size=M e.1:=by simpa using h.top 0 (by simpa using R)
 refine⟨λj l=>?_,λi V=>?_,λi V=>?_,λi x Z=>?_,h.tape,h.drawn,h.os,h.output⟩
 ·simp only[Array.size_push]at l⊢;have:=h.top (1+j) Aa
  grind
 ·simp only[Array.size_push]at V⊢;by_cases a:i=M v.1
  ·subst a;omega
  ·have:=h.lt i Aa;omega
 ·simp only[Array.size_push]at V⊢;have C:=h.out i Aa;have b:sh n i≠M e.1:=λa=>by have:=Gx (a.trans F.symm);omega
  omega
 ·simp only[Wj]at Z⊢;by_cases a:i=M v.1
  ·subst a;rw[aJ iP]at Z;obtain rfl:=aA Z;exact⟨_,by rw[aJ F],.inl iP⟩
  ·rw[aL a]at Z;have K:=h.lt i (aH.1 Z).1;obtain⟨I,G,E⟩:=h.4 i x Z
   grind
def Sm.setCell(h:Sm n t J v e){a}(M:v.cell? a=ni y)(x):Sm n t J (v.setCell a x) (e.setCell (Ei n a) (A1 n x)):=by
 obtain⟨d,f,s⟩:=a;refine⟨by rw[size_setCell,size_setCell];exact h.top,by rw[size_setCell,size_setCell];exact h.lt,by rw[size_setCell,size_setCell];exact h.out,λi o O=>?_,h.tape,h.drawn,h.os,h.output⟩;rw[heap_setCell]at O;rw[heap_setCell];by_cases b:i=d
 ·subst b;have L:(Ei n ⟨i,f,s⟩).block=sh n i:=iP;simp only[bP,L]at O⊢;unfold sw at M;cases q:v.1[i]? with
  |none=>simp[q]at O
  |some p=>
   obtain⟨u,X,K⟩:=h.4 i p q;simp only[q]at M;rw[q,aI]at O;obtain rfl:=aA O;cases p with
   |cells c S r=>
    cases s with
    |some s=>simp at M
    |none=>
     simp only[eY,aR,bQ]at M;refine⟨_,by rw[X,aI],?_⟩;rcases K with rfl|⟨Q,B,m,R,g,rfl,k,U⟩|⟨_,z,_⟩|D
     ·left;simp[Dt,Ei]
     ·cases g
      right;left
      refine⟨_,_,_,_,iP,iP,by simpa[Ei] using k,λj l=>?_⟩;simp only[Ei,eY,aR,bQ,bZ,k];split
      ·split<;>simp
      ·exact U j l
     ·exact absurd iP (z _ _ _)
     ·obtain⟨B,E,H,D,rfl⟩:=D;cases D;simp at M
   |_=>simp at M
 ·rw[aL b]at O;have:¬sh n i=(Ei n ⟨d,f,s⟩).block:=λc=>b (Gx c);rw[aL this];exact h.4 i o O
def Sm.set(h:Sm n t J v e){r p}(Q:v.1[r]?=ni p)(o):Sm n t J { v with heap:=v.1.setIfInBounds r o } { e with heap:=e.1.setIfInBounds (sh n r) (Dt n o) }:=by
 have Y:=(aH.1 Q).1;refine⟨by simpa using h.top,by simpa using h.lt,by simpa using h.out,λi x Z=>?_,h.tape,h.drawn,h.os,h.output⟩;simp only[bZ]at Z⊢;by_cases a:r=i
 ·subst a;rw[aJ iP,aJ Y]at Z;obtain rfl:=aA Z;exact⟨_,by rw[aJ iP,aJ (h.lt r Y)],.inl iP⟩
 ·rw[aL a]at Z;rw[aL λc=>a (Gx c)];exact h.4 i x Z
def Zx(w o):Da w { w with heap:=w.1.push o } #[]:=by
 have I:∀i,i<M w.1->(w.1.push o)[i]?=w.1[i]?:=λi V=>Ai;have lt:∀{i} {x},w.1[i]?=ni x->i<M w.1:=λh=>(aH.1 h).1;refine⟨Ad,λa d _=>?_,λr x Z _ _=>(I r (lt Z)).trans Z,λr c e b Z=>⟨c,(I r (lt Z)).trans Z,iP⟩,λr x Z z=>⟨x,(I r (lt Z)).trans Z,z,iP⟩,iP,iP,iP⟩;unfold sw;simp only[I _ d]
def Gf(w a x b):Da w (w.setCell a x) #[⟨.cell a,tu,b⟩]:=by
 refine⟨Nat.le_of_eq (size_setCell w a x).symm,λc M z=>?_,λr o O z _=>?_,λr c e g Y=>?_,λr o O z=>?_,iP,iP,iP⟩
 ·have f:c≠a:=λe=>z ⟨.cell a,tu,b⟩ Ad iP (by rw[e]);unfold sw;rw[heap_setCell];by_cases e:c.block=a.block
  ·rw[aJ e];cases w.1[c.block]? with
   |none=>rfl
   |some o=>
    cases o with
    |cells d S g=>
     simp only[aI];cases j:c.3 with
     |some s=>simp
     |none=>
      cases i:a.3 with
      |some s=>simp
      |none=>
       have:a.off≠c.off:=λL=>f (by cases c;cases a;simp_all)
       grind
    |_=>rfl
  ·rw[aL e]
 ·rw[heap_setCell];split
  ·rw[O];cases o with
   |cells c e g=>exact absurd iP (z c e g)
   |_=>rfl
  ·exact O
 ·rw[heap_setCell];split
  ·rw[Y];refine⟨_,iP,?_⟩;split<;>simp
  ·exact⟨c,Y,iP⟩
 ·rw[heap_setCell];split
  ·rw[O];cases o with
   |cells c e g=>exact absurd iP (z c e g)
   |_=>exact⟨_,iP,z,iP⟩
  ·exact⟨o,O,z,iP⟩
def Lh(w){p}(Q:w.1[r]?=ni p)(M:Ci p)(o)(O:Ci o)(b)(z:o.isChan=p.isChan):Da w { w with heap:=w.1.setIfInBounds r o } #[⟨.obj r,tu,b⟩]:=by
 refine⟨Ad,λa d _=>?_,λi x Z g N=>?_,λi c e f Z=>?_,λi x Z g=>?_,iP,iP,iP⟩
 ·unfold sw;simp only[bZ];by_cases e:r=a.block
  ·subst e;rw[aJ iP,aJ ((aH.1 Q).1),Q];cases o with
   |cells c e f=>exact absurd iP (O c e f)
   |_=>cases p with
    |cells c e f=>exact absurd iP (M c e f)
    |_=>rfl
  ·rw[aL e]
 ·simp_all
 ·refine⟨c,?_,iP⟩
  show(w.1.setIfInBounds r o)[i]?=_;rw[bZ];split
  ·rename_i e;subst e;rw[Q]at Z;obtain rfl:=aA Z;exact absurd iP (M _ _ _)
  ·exact Z
 grind
def Ox(w k):Da w { w with drawn:=k } #[]:=⟨aB _,λ_ _ _=>rfl,λ_ _ h _ _=>h,λ_ c _ _ h=>⟨c,h,rfl⟩,λ_ o h z=>⟨o,h,z,rfl⟩,rfl,rfl,rfl⟩
end
def Ajx:Mark->Prop
 |.noRoom=>True
 |.extern _=>True
 |_=>False
def Ht(v:q)(e:yn):Prop:=
 match e.loc with
 |.cell a=>∃x,v.cell? a=ni x
 |.obj r=>∃o,v.1[r]?=ni o/\Ci o/\(o.isChan=tu->e.write=o9/\e.sync=tu)
 |.mark m=>Ajx m
 |_=>False
def Ht.frame{v}(h:Ht v e)(f:Da v U X):Ht U e:=by
 unfold Ht at *;split at h
 ·have ⟨x,Z⟩:=h;rename_i a _;unfold sw at Z⊢;cases q:v.1[a.block]? with
  |none=>simp[q]at Z
  |some o=>
   simp only[q]at Z;cases o with
   |cells c e b=>
    have ⟨B,n,s⟩:=f.row _ _ _ _ q
    grind
   |_=>simp at Z
 ·have ⟨o,O,z,M⟩:=h;have ⟨I,C,J,T⟩:=f.5 _ _ O z
  grind
 ·exact h
 ·exact h
def Hd(H:hY)(v:q):Prop:=∀r,H r->∀o,v.1[r]?=ni o->Ci o/\o.isChan=o9
def Hd.frame{v:qg}(h:Hd H v)(K:∀r,H r->r<v.1.size)(f:Da v U X):Hd H U:=λr Y o O=>by
 have F:=aO (K r Y);have ⟨C,J⟩:=h r Y _ F;have ⟨I,T,q,z⟩:=f.5 r _ F C
 grind
structure Dc(H){α β}(P n)(f:α->β)(s:Sem α)(t:Sem β):Prop where
 monoH:∀v a v',Plain v->(Hd H v/\∀r,H r->r<iS v.1)->s.run P v=.ok a v'->Plain v'/\Da v v' (s.events P v #[])/\∀e∈s.events P v #[],Ht v' e
 haltsH:∀v h v',Plain v->(Hd H v/\∀r,H r->r<iS v.1)->s.run P v=.halt h v'->HB h
 simH:∀J t0 v w,Sm n t0 J v w->Plain v->(Hd H v/\∀r,H r->r<iS v.1)->(∀e∈s.events P v #[],Fb J e)->∀a v',s.run P v=.ok a v'->iS v'.1<=t0 ->
  ∃w',t.run P w=.ok (f a) w'/\t.events P w #[]=(s.events P v #[]).map (Kt n)/\Sm n t0 J v' w'/\Da w w' (t.events P w #[])
abbrev Rf{α β}(P:I)(n:Ren)(f:α->β)(s:Sem α)(t:Sem β):Prop:=Dc (λ_=>False) P n f s t
def ID(v):Hd iO v/\∀r,False->r<M v.1:=⟨λ_ h=>h.elim,λ_ h=>h.elim⟩
def Rf.mono{n}{f:a->b}{s t}(h:Rf P n f s t):∀v c U,Plain v->s.run P v=.ok c U->Plain U/\Da v U (s.events P v #[])/\∀e∈s.events P v #[],Ht U e:=λv c U Q=>h.1 v c U Q (ID v)
def Rf.halts{n}{f:a->b}{s t}(h:Rf P n f s t):∀v x U,Plain v->s.run P v=.halt x U->HB x:=λv x U Q=>h.2 v x U Q (ID v)
def Rf.sim{n}{f:a->b}{s t}(h:Rf P n f s t):∀J u v w,Sm n u J v w->Plain v->(∀e∈s.events P v #[],Fb J e)->∀c U,s.run P v=.ok c U->M U.1<=u ->
  ∃B,t.run P w=.ok (f c) B/\t.events P w #[]=(s.events P v #[]).map (Kt n)/\Sm n u J U B/\Da w B (t.events P w #[]):=λJ u v w d Q=>h.3 J u v w d Q (ID v)
section
variable {n:Ren}
def Ex{s}{k:b->Sem a}{t x}(h:s.run P v=.ok x t):(s >>= k).events P v #[]=s.events P v #[]++(k x).events P t #[]:=by
 rw[Sem.events_bind,h,Result.evThen_ok,Sem.events_acc]
def Rf.bind{f:b->c}{g:a->d}{s t}{k:b->Sem a}{q:c->Sem d}(i:Dc H P n f s t)(E:∀h,Dc H P n g (k h) (q (f h))):Dc H P n g (s >>= k) (t >>= q):=by
 have o:∀{v} {h} {U},(s >>= k).run P v=.ok h U->∃x e,s.run P v=.ok x e/\(k x).run P e=.ok h U:=λ{v h U} Y=>by
  rw[Sem.run_bind]at Y;cases C:s.run P v with
  |halt i w=>simp_all
  |ok x e=>rw[C]at Y;exact⟨x,e,iP,Y⟩
 refine⟨λv h U Q p Y=>?_,λv x U Q p Y=>?_,λJ u v w T Q p O h U Y R=>?_⟩
 rotate_left
 ·rw[Sem.run_bind]at Y;cases C:s.run P v with
  |halt y w=>rw[C]at Y;cases Y;exact i.2 v _ _ Q p C
  |ok y e=>
   rw[C]at Y;obtain⟨m,D,_⟩:=i.1 v y e Q p C;exact(E y).2 e x U m ⟨p.1.frame p.2 D,λr Y=>aC (p.2 r Y) D.size⟩ Y
 rotate_left
 ·obtain⟨x,e,C,l⟩:=o Y;obtain⟨m,D,B⟩:=i.1 v x e Q p C;obtain⟨I,K,Z⟩:=(E x).1 e h U m ⟨p.1.frame p.2 D,λr Y=>aC (p.2 r Y) D.size⟩ l;rw[Ex C];exact⟨I,D.trans K,λj N=>(cD.1 N).elim (λN=>(B j N).frame K) (Z j)⟩
 ·obtain⟨x,e,C,l⟩:=o Y;obtain⟨m,z,_⟩:=i.1 v x e Q p C;have F:Hd H e/\∀r,H r->r<iS e.1:=⟨p.1.frame p.2 z,λr Y=>aC (p.2 r Y) z.size⟩;obtain⟨I,W,_⟩:=(E x).1 e h U m F l;rw[Ex C]at O⊢;obtain⟨G,S,L,V,D⟩:=i.3 J u v w T Q p (λj N=>O j (cD.2 (.inl N))) x e C (aF W.size R);obtain⟨M,a1,X,A,K⟩:=(E x).3 J u e G V m F (λj N=>O j (cD.2 (.inr N))) h U l R;refine⟨M,?_,?_,A,?_⟩
  ·rwa[Sem.run_bind,S]
  ·rw[Ex S,L,X,dD]
  ·rw[Ex S];exact D.trans K
def Rf.pure{f:b->c}{a d}(h:d=f a):Dc H P n f (Pure.pure a:Sem b) (Pure.pure d):=by
 refine⟨λv x U Q p Y=>?_,λv x U Q p Y=>(by cases Y),λJ u v w s Q p O x U Y R=>?_⟩
 ·cases Y;exact⟨Q,.refl _ _,Ad⟩
 ·cases Y;subst h;exact⟨w,iP,Ad,s,.refl _ _⟩
def Rf.programIn{g:a->d}{k:I->Sem a}{q:I->Sem d}(h:Dc H P n g (k P) (q P)):Dc H P n g (Go.program >>= k) (Go.program >>= q):=⟨λv b U Q p Y=>h.1 v b U Q p Y,λv x U Q p Y=>h.2 v x U Q p Y,λJ u v w s Q p O b U Y R=>h.3 J u v w s Q p O b U Y R⟩
def Ai6(P:I)(s:Sem b):Prop:=∀v a v',s.run P v≠.ok a v'
def Ko(P:I)(s:Sem b):Prop:=∀v h v',s.run P v=.halt h v'->HB h
structure Nev(P)(s:Sem b):Prop where
 never:Ai6 P s
 halts:Ko P s
def Rf.never{f:b->c}{s t}(h:Nev P s):Dc H P n f s t:=⟨λv a U _ _ Y=>absurd Y (h.never v a U),λv x U _ _ Y=>h.halts v x U Y,λJ u v w d Q p O x U Y=>absurd Y (h.never v x U)⟩
def Cz{s:Sem b}{h}(e:s=.halt h)(D:HB h):Nev P s:=by
 subst e;exact⟨λv a U Y=>(by cases Y),λv x U Y=>(by cases Y;exact D)⟩
def Rf.stuck{f:b->c}{t}:Dc H P n f (Go.stuck m) t:=Rf.never (Cz iP trivial)
def Rf.unsup{f:b->c}{m t}(h:HB (.unsupported m):=by exact trivial):Dc H P n f (Go.unsupported m) t:=Rf.never (Cz iP h)
def If(a):Ko P (Pure.pure a:Sem b):=λv h U Y=>by cases Y
def Ie{s}{k:b->Sem a}(h:Ko P s)(E:∀c,Ko P (k c)):Ko P (s >>= k):=λv x U Y=>by
 rw[Sem.run_bind]at Y;cases C:s.run P v with
 |halt _ _=>rw[C]at Y;cases Y;exact h _ _ _ C
 |ok y t=>rw[C]at Y;exact E y t x U Y
def Ki:Ko P Go.program:=λv h U Y=>by cases Y
def Uv(o):Ko P (Go.newObj o):=λv h U Y=>by simp_all
def Oy(q):Ko P (Go.choose q):=λv h U Y=>by simp only[Go.choose,Sem.run]at Y;split at Y<;>cases Y
def Tm(m):Ko P (Go.mark m):=λv h U Y=>by cases Y
def Gs{s}{k:b->Sem a}(d:Ko P s)(h:∀c,Nev P (k c)):Nev P (s >>= k):=⟨λv x U Y=>by
 rw[Sem.run_bind]at Y;cases C:s.run P v with
 |halt _ _=>simp_all
 |ok y t=>rw[C]at Y;exact(h y).never t x U Y,Ie d λc=>(h c).halts⟩
def D8{s}{k:b->Sem a}(h:Nev P s):Nev P (s >>= k):=by
 have n:∀v,∃x t,s.run P v=.halt x t:=λv=>by
  cases C:s.run P v with
  |halt x t=>exact⟨x,t,iP⟩
  |ok y t=>exact absurd C (h.never v y t)
 refine⟨λv x U Y=>?_,λv x U Y=>?_⟩
 ·have ⟨y,t,C⟩:=n v
  simp_all
 ·have ⟨y,t,C⟩:=n v;rw[Sem.run_bind,C]at Y;cases Y;exact h.halts _ _ _ C
def Qi:Ko P (Go.stuck m:Sem b):=(Cz (h:=.stuck m) iP trivial).halts
def Z0(t):Ko P (Go.typeInfo t):=Ie Ki λp=>by
 cases p.info? t with
 |none=>exact Qi
 |some i=>exact If _
def IB(t):Ko P (Go.elemOf t):=by
 refine Ie ((by
    refine Ie Ki λp=>?_;cases p.underlying t with
    |none=>exact Qi
    |some i=>exact If _)) λd=>?_
 cases d<;>first|exact If _|exact Qi
def Jx(e):Nev P (Go.runtimePanic e:Sem b):=by
 refine Gs Ki λp=>?_;split
 all_goals first
  |exact Cz iP trivial
  |exact Gs _ λ_=>Cz iP trivial
  |exact Gs _ λ_=>Cz iP trivial
  |exact Gs (IB _) λ_=>Gs (Ie (Uv _) λ_=>If _) λ_=>Cz iP trivial
def Rf.rt{f:b->c}{e t}:Dc H P n f (Go.runtimePanic e) t:=Rf.never (Jx e)
def Rf.bp{f:b->c}{k x y a t}:Dc H P n f (Go.boundsPanic k x y a) t:=Rf.never ((by
   unfold Go.boundsPanic;split
   ·exact Gs (by exact Ie (Oy _) λ_=>If _) λ_=>Jx _
   ·exact Gs (If _) λ_=>Jx _))
def VE{m a}{k:T->Sem b}{r}(Q:Plain v)(h:(Sem.load m a k).run P v=.ok r U):∃x,v.cell? a=ni x:=by
 cases q:v.cell? a with
 |some x=>exact⟨x,iP⟩
 |none=>
  have ⟨x,Z,_⟩:=Sl (P:=P) Q a (m==.atomic);simp[Sem.run,q,Z]at h
def Rf.load(a m):Dc H P n (A1 n) (Go.load a m) (Go.load (Ei n a) m):=by
 refine⟨λv x b Q p Y=>?_,(λv h b Q p Y=>by
  cases q:v.cell? a with
  |some x=>simp_all
  |none=>
   obtain⟨y,U,D⟩:=Sl (P:=P) Q a (m==.atomic)
   simp_all),λJ u v w s Q p O x b Y R=>?_⟩
 ·obtain⟨y,U⟩:=VE Q Y;simp only[Go.load,Sem.run,U]at Y;cases Y;exact⟨Q,.refl _ _,by simp[-Sem.runT_eq,Go.load,Sem.events,Sem.runT,U,Ht]⟩
 ·obtain⟨y,U⟩:=VE Q Y;have d:∀w(a:E)z,w.cell? a=ni z->(Go.load a m).events P w #[]=#[⟨.cell a,o9,m==.atomic⟩]:=λw a z N=>by simp_all
  rw[d v a y U]at O⊢;have W:=s.cell U ((O _ (eC.2 iP)).cell);simp only[Go.load,Sem.run,U]at Y;cases Y;exact⟨w,by simp_all,by rw[d w _ _ W];simp[Kt,Gg],s,.refl _ _⟩
def Alm(n){x}(h:∀c,x≠.agg c)(P:∀c,x≠.tuple c):(∀c,A1 n x≠.agg c)/\∀c,A1 n x≠.tuple c:=by
 cases x<;>simp_all
def run_store{m a}{k:Sem b}(M:v.cell? a=ni y)(I:v.frozen? a=o9)(h:∀c,x≠.agg c)(d:∀c,x≠.tuple c)(X):(Sem.store m a x k).run P v=k.run P (v.setCell a x)/\(Sem.store m a x k).runT P v X=k.runT P (v.setCell a x) (X.push ⟨.cell a,tu,m==.atomic⟩):=by
 cases x<;>simp_all[-Sem.runT_eq,Sem.run,Sem.runT]
def MY{m a k}{r:b}(Q:Plain v)(h:(Sem.store m a x k).run P v=.ok r U):(∃y,v.cell? a=ni y)/\v.frozen? a=o9/\(∀c,x≠.agg c)/\∀c,x≠.tuple c:=by
 have ⟨y,d,_⟩:=Qf (P:=P) Q a x (m==.atomic);cases M:v.cell? a with
 |none=>cases x<;>simp[Sem.run,M,d]at h
 |some z=>
  cases I:v.frozen? a with
  |true=>cases x<;>simp[Sem.run,M,I]at h
  |false=>exact⟨⟨z,iP⟩,iP,λc e=>by subst e;simp[Sem.run]at h,λc e=>by subst e;simp[Sem.run]at h⟩
def Jw{a}(h:v.cell? a=ni y):a.block<M v.1:=by
 unfold sw at h
 grind
def Rf.store(a x m):Dc H P n id (Go.store a x m) (Go.store (Ei n a) (A1 n x) m):=by
 have g:∀w(a:E)x y,w.cell? a=ni y->w.frozen? a=o9->(∀c,x≠.agg c)->(∀c,x≠.tuple c)->(Go.store a x m).events P w #[]=#[⟨.cell a,tu,m==.atomic⟩]:=λw a x y M I h k=>by
  unfold Go.store Sem.events;rw[(run_store M I h k #[]).2];simp[-Sem.runT_eq,Sem.runT]
 refine⟨λv z e Q p Y=>?_,(λv h e Q p Y=>by
  obtain⟨y,U,D⟩:=Qf (P:=P) Q a x (m==.atomic);cases M:v.cell? a with
  |none=>cases x<;>(simp only[Go.store,Sem.run,M,U]at Y;cases Y;first|exact D|exact trivial)
  |some z=>
   cases I:v.frozen? a<;>cases x<;>(simp[Go.store,Sem.run,M,I]at Y)<;>(obtain⟨rfl,_⟩:=Y;exact trivial)),λJ u v w s Q p O z e Y R=>?_⟩
 ·obtain⟨⟨y,U⟩,I,C,d⟩:=MY Q Y;rw[g v a x y U I C d];unfold Go.store at Y;rw[(run_store U I C d #[]).1]at Y;cases Y;have X:=Gf v a x (m==.atomic);refine⟨Kk Q a x,X,λi N=>?_⟩;obtain rfl:=eC.1 N;exact Ht.frame (v:=v) (show Ht v ⟨.cell a,tu,m==.atomic⟩ from⟨y,U⟩) X
 ·obtain⟨⟨y,U⟩,I,C,d⟩:=MY Q Y;rw[g v a x y U I C d]at O⊢;have W:=s.cell U ((O _ (eC.2 iP)).cell);have b:w.frozen? (Ei n a)=o9:=by rwa[s.frozen a (Jw U)]
  have f:=Alm n C d;unfold Go.store at Y;rw[(run_store U I C d #[]).1]at Y;cases Y;refine⟨w.setCell (Ei n a) (A1 n x),?_,by rw[g w _ _ _ W b f.1 f.2];simp[Kt,Gg],s.setCell U x,?_⟩
  ·unfold Go.store;rw[(run_store W b f.1 f.2 #[]).1];rfl
  ·rw[g w _ _ _ W b f.1 f.2];exact Gf w _ _ _
def Rf.newObj{o}(h:Va o):Dc H P n (sh n) (Go.newObj o) (Go.newObj (Dt n o)):=by
 refine⟨λv z U Q p Y=>?_,(λv h U Q p Y=>Uv o v h U Y),λJ u v w s Q p O z U Y R=>?_⟩
 ·have b:(Go.newObj o).events P v #[]=#[]:=Ad;cases Y;exact⟨Tw Q h,Zx v o,Ad⟩
 ·have b:∀w(o:Obj),(Go.newObj o).events P w #[]=#[]:=λw o=>Ad;cases Y;have e:M v.1<u:=by simp at R;omega
  have F:sh n v.1.size=M w.1:=by simpa using s.top 0 (by simpa using e)
  refine⟨{ w with heap:=w.1.push _ },by simp_all,Ad,s.push e o,?_⟩;exact Zx w _
def Tx{p}(O:w.1[r]?=ni p)(z:Ci p):(Go.getObj r).run P w=.ok p w/\(Go.getObj r).events P w #[]=#[⟨.obj r,o9,p.isChan⟩]:=by
 cases p with
 |cells c e j=>exact absurd iP (z c e j)
 |_=>simp[-Sem.runT_eq,Go.getObj,Sem.run,Sem.events,Sem.runT,O]
def EW{x}(Y:(Go.getObj r).run P v=.ok x U):v.1[r]?=ni x/\Ci x/\U=v:=by
 cases q:v.1[r]? with
 |none=>simp[Go.getObj,Sem.run,q]at Y
 |some o=>
  cases o with
  |cells c e b=>simp[Go.getObj,Sem.run,q]at Y
  |_=>simp only[Go.getObj,Sem.run,q]at Y;cases Y;exact⟨iP,λ_ _ _ e=>by(cases e),iP⟩
def He(h:o.isChan=tu):∃a b c d e f,o=.chan a b c d e f:=by
 cases o with
 |chan a b c d e f=>grind
 |_=>cases h
def Rf.getObjThen{f:a->d}{k:Obj->Sem a}{q:Obj->Sem d}(r)(E:∀o,o.isChan=o9->Dc (λi=>H i∨i=r) P n f (k o) (q (Dt n o)))(M:∀o I,o.isChan=tu->I.isChan=tu->Dc H P n f (k o) (q I)):Dc H P n f (Go.getObj r >>= k) (Go.getObj (sh n r) >>= q):=by
 have g:∀{v} {o},(Hd H v/\∀i,H i->i<iS v.1)->v.1[r]?=ni o->Ci o->o.isChan=o9->Hd (λi=>H i∨i=r) v/\∀i,(H i∨i=r)->i<iS v.1:=λ{v o} b O hn z=>
  ⟨λi V A Q=>V.elim (λm=>b.1 i m A Q) λe=>Ai,λi V=>V.elim (b.2 i) λe=>Ai⟩
 have p:∀{v} {c} {U},(Go.getObj r >>= k).run P v=.ok c U->∃o,v.1[r]?=ni o/\Ci o/\(k o).run P v=.ok c U:=λ{v c U} Y=>by
  rw[Sem.run_bind]at Y;cases C:(Go.getObj r).run P v with
  |halt m w=>simp_all
  |ok x F=>
   rw[C]at Y;obtain⟨j,T,rfl⟩:=EW C
   simp_all
 refine⟨λv c U Q b Y=>?_,λv x U Q b Y=>?_,λJ u v w s Q b O c U Y R=>?_⟩
 ·obtain⟨o,C,j,T⟩:=p Y;obtain⟨X,G⟩:=Tx (P:=P) C j;have h:Plain U/\Da v U ((k o).events P v #[])/\∀e∈(k o).events P v #[],Ht U e:=by
   cases z:o.isChan with
   |false=>exact(E o z).1 v c U Q (g b C j z) T
   |true=>exact(M o o z z).1 v c U Q b T
  obtain⟨K,t,L⟩:=h;rw[Ex X,G];refine⟨K,(Da.refl v _).trans t,λe N=>(cD.1 N).elim (λN=>?_) (L e)⟩;obtain rfl:=eC.1 N;exact Ht.frame (v:=v) (show Ht v ⟨.obj r,o9,o.isChan⟩ from⟨o,C,j,λe=>⟨iP,e⟩⟩) t
 ·rw[Sem.run_bind]at Y;cases C:(Go.getObj r).run P v with
  |halt a1 w=>
   rw[C]at Y;cases Y;cases y:v.1[r]? with
   |none=>simp only[Go.getObj,Sem.run,y]at C;cases C;exact trivial
   |some o=>cases o<;>(simp only[Go.getObj,Sem.run,y]at C;cases C)<;>exact trivial
  |ok o F=>
   rw[C]at Y;obtain⟨j,T,rfl⟩:=EW C;cases z:o.isChan with
   |false=>exact(E o z).2 _ x U Q (g b j T z) Y
   |true=>exact(M o o z z).2 _ x U Q b Y
 ·obtain⟨o,C,j,T⟩:=p Y;obtain⟨X,G⟩:=Tx (P:=P) C j;rw[Ex X,G]at O⊢;obtain⟨I,S,W,Z,e4⟩:=s.objAny C j;obtain⟨D,f2⟩:=Tx (P:=P) S W;have h:∃B,(q I).run P w=.ok (f c) B/\(q I).events P w #[]=((k o).events P v #[]).map (Kt n)/\Sm n u J U B/\Da w B ((q I).events P w #[]):=by
   cases z:o.isChan with
   |false=>
    have l:¬J (.obj r):=λl=>by
     have:=(O ⟨.obj r,o9,o.isChan⟩ Ad l).2.2;rw[z]at this;cases this
    rw[e4 l];exact(E o z).3 J u v w s Q (g b C j z) (λe N=>O e (cD.2 (.inr N))) c U T R
   |true=>exact(M o I z (Z.trans z)).3 J u v w s Q b (λe N=>O e (cD.2 (.inr N))) c U T R
  obtain⟨B,k1,k2,k3,k4⟩:=h;refine⟨B,?_,?_,k3,?_⟩
  ·rwa[Sem.run_bind,D]
  ·rw[Ex D,f2,k2,Z,dD];simp[Kt,Gg]
  ·rw[Ex D];exact(Da.refl w _).trans k4
def Rf.setObj{o}(h:Va o)(M:Ci o)(d:o.isChan=o9)(r)(Y:H r):Dc H P n id (Go.setObj r o) (Go.setObj (sh n r) (Dt n o)):=by
 have k:∀{v U} {x},(Go.setObj r o).run P v=.ok x U->(∃p,v.1[r]?=ni p/\Ci p)/\U = { v with heap:=v.1.setIfInBounds r o }:=λ{v U x} Y=>by
  cases q:v.1[r]? with
  |none=>simp[Go.setObj,Sem.run,q]at Y
  |some p=>
   cases p with
   |cells c e j=>simp[Go.setObj,Sem.run,q]at Y
   |_=>simp only[Go.setObj,Sem.run,q]at Y;cases Y;exact⟨⟨_,iP,λ_ _ _ e=>by(cases e)⟩,iP⟩
 have f:∀w(r:Nat)o p,w.1[r]?=ni p->Ci p->(Go.setObj r o).run P w=.ok () { w with heap:=w.1.setIfInBounds r o }/\(Go.setObj r o).events P w #[]=#[⟨.obj r,tu,o.isChan⟩]:=λw r o p O z=>by
  cases p with
  |cells c e j=>exact absurd iP (z c e j)
  |_=>simp[-Sem.runT_eq,Go.setObj,Sem.run,Sem.events,Sem.runT,O]
 refine⟨λv a U Q g F=>?_,(λv h U Q g Y=>by
  cases q:v.1[r]? with
  |none=>simp_all
  |some o=>cases o<;>(simp only[Go.setObj,Sem.run,q]at Y;cases Y)<;>exact trivial),λJ u v w s Q g O a U F R=>?_⟩
 ·obtain⟨⟨p,C,b⟩,rfl⟩:=k F;rw[(f v r o p C b).2];refine⟨(by
     intro i x Z;simp only[bZ]at Z;split at Z
     ·grind
     ·exact Q i x Z),Lh v C b o M _ (d.trans (g.1 r Y p C).2.symm),λe N=>?_⟩
  obtain rfl:=eC.1 N;exact⟨o,by simp[(aH.1 C).1],M,λe=>by rw[d]at e;cases e⟩
 ·obtain⟨⟨p,C,b⟩,rfl⟩:=k F;rw[(f v r o p C b).2]at O⊢;have W:=s.obj C b (λl=>by have:=(O _ (eC.2 iP) l).2.1;cases this);have I:=f w _ (Dt n o) _ W (Hh b);have V:(Dt n o).isChan=o.isChan:=Od n o;refine⟨_,I.1,by rw[I.2,V];simp[Kt,Gg],s.set C o,?_⟩;rw[I.2];exact Lh w W (Hh b) _ (Hh M) _ (by rw[V,Od,d,(g.1 r Y p C).2])
def Rf.choose(q):Dc H P n id (Go.choose q) (Go.choose q):=by
 have b:∀w,(Go.choose q).events P w #[]=#[]:=λw=>Ad;refine⟨λv z U Q p Y=>?_,(λv h U Q p Y=>Oy q v h U Y),λJ u v w s Q p O z U Y R=>?_⟩
 ·rw[b];simp only[Go.choose,Sem.run]at Y;split at Y
  ·cases Y;exact⟨Q,.refl _ _,Ad⟩
  ·cases Y;exact⟨Q,Ox v _,Ad⟩
 ·rw[b,b];simp only[Go.choose,Sem.run]at Y⊢;rw[s.tape,s.drawn];split at Y
  ·rename_i f;cases Y;exact⟨w,by rw[aJ f];rfl,Ad,s,.refl _ _⟩
  ·rename_i f;cases Y;have C:=s.drew;rw[s.drawn]at C;refine⟨_,by rw[aL f];rfl,Ad,?_,?_⟩
   ·rwa[s.tape]at C
   ·rw[←s.tape];exact Ox w _
def Rf.program:Dc H P n id Go.program Go.program:=⟨λv z U Q p Y=>by cases Y;exact⟨Q,.refl _ _,Ad⟩,λv h U Q p Y=>Ki v h U Y,λJ u v w s Q p O z U Y R=>by cases Y;exact⟨w,iP,Ad,s,.refl _ _⟩⟩
def Rf.mark{m}(L:Ajx m):Dc H P n id (Go.mark m) (Go.mark m):=⟨λv z U Q p Y=>by cases Y;exact⟨Q,.refl _ _,by simp[-Sem.runT_eq,Go.mark,Sem.events,Sem.runT,Ht,L]⟩,λv h U Q p Y=>Tm m v h U Y,λJ u v w s Q p O z U Y R=>by cases Y;exact⟨w,iP,by simp[-Sem.runT_eq,Go.mark,Sem.events,Sem.runT,Kt,Gg],s,.refl _ _⟩⟩
def Rf.noRoom:Dc H P n id (Go.mark .noRoom) (Go.mark .noRoom):=Rf.mark trivial
def Rf.map{f:b->c}{s t}{g:b->a}{R:c->d}{h:a->d}(i:Dc H P n f s t)(j:∀e,R (f e)=h (g e)):Dc H P n h (g <$> s) (R <$> t):=by
 exact Rf.bind i λe=>Rf.pure (j e)
def Sm.shape{t J}(h:Sm n t J v w)(r):w.shape? (sh n r)=v.shape? r∨∃a m,v.shape? r=ni (a,0)/\w.shape? (sh n r)=ni (a,m):=by
 unfold zj;cases q:v.1[r]? with
 |none=>
  have C:=Array.getElem?_eq_none_iff.2 (h.out r (Array.getElem?_eq_none_iff.1 q))
  grind
 |some o=>
  obtain⟨I,G,K⟩:=h.4 r o q;rw[G];rcases K with rfl|⟨c,B,a,b,rfl,rfl,s,_⟩|⟨_,z,j⟩|⟨B,a,b,rfl,rfl⟩
  ·left;cases o<;>simp[Dt]
  ·left;simp[s]
  ·left
   exact Eji
  grind
def Rf.shapeThen{f:a->d}{k:Option (Z×Nat)->Sem a}{q:Option (Z×Nat)->Sem d}(r)(E:∀x,Dc H P n f (k x) (q x))(F:∀e,Ai6 P (k (ni (e,0)))∨∀m,q (ni (e,m))=q (ni (e,0))):Dc H P n f (Go.shape r >>= k) (Go.shape (sh n r) >>= q):=by
 have b:∀w r {a} (k:Option (Z×Nat)->Sem a),(Go.shape r >>= k).events P w #[]=(k (w.shape? r)).events P w #[]:=λw r {a} k=>Ad;refine⟨λv z U Q p Y=>by exact(E _).1 v z U Q p Y,λv h U Q p Y=>(E (v.shape? r)).2 v h U Q p Y,λJ u v w s Q p O z U Y R=>?_⟩;rw[b,b];have I:(k (v.shape? r)).run P v=.ok z U:=Y;have e:q (w.shape? (sh n r))=q (v.shape? r):=by
  rcases s.shape r with e|⟨e,m,S,L⟩
  ·rw[e]
  ·rcases F e with h|h
   ·rw[S]at I;exact absurd I (h _ _ _)
   grind
 rw[e];obtain⟨B,C,i⟩:=(E _).3 J u v w s Q p O z U I R;refine⟨B,?_,i⟩
 simp_all
end
section
variable {n:Ren}
def Rf.askRoom(k):Dc H P n id (Go.askRoom k) (Go.askRoom k):=by
 unfold Go.askRoom;split
 ·exact Rf.noRoom
 ·exact Rf.pure iP
def Rf.typeInfo(t):Dc H P n id (Go.typeInfo t) (Go.typeInfo t):=Rf.bind Rf.program λp=>by
 simp only[id];split
 ·exact Rf.pure iP
 ·exact Rf.stuck
def Rf.underlying(t):Dc H P n id (Go.underlying t) (Go.underlying t):=Rf.bind Rf.program λp=>by
 simp only[id];split
 ·exact Rf.pure iP
 ·exact Rf.stuck
def Rf.sizeOf(t):Dc H P n id (Go.sizeOf t) (Go.sizeOf t):=Rf.bind (Rf.typeInfo t) λ_=>Rf.pure iP
def Rf.isAgg(t):Dc H P n id (Go.isAgg t) (Go.isAgg t):=Rf.bind (Rf.underlying t) λd=>by
 simp only[id];split<;>exact Rf.pure iP
def Rf.newRow(e)(c:iB):Dc H P n (Ei n) (Go.newRow e c) (Go.newRow e (c.map (A1 n))):=Rf.bind (Rf.newObj (o:=.cells c e) trivial) λ_=>Rf.pure iP
def Rf.newVar(e x):Dc H P n (Ei n) (Go.newVar e x) (Go.newVar e (A1 n x)):=by
 unfold Go.newVar;rw[Ke];exact Rf.newRow _ _
def Rf.loadCellsFrom(a):∀k i(D:iB),Dc H P n (Array.map (A1 n)) (Go.loadCellsFrom a i k D) (Go.loadCellsFrom (Ei n a) i k (D.map (A1 n)))
 |0,_,_=>Rf.pure iP
 |k+1,i,D=>by
  unfold Go.loadCellsFrom;rw[←Km];refine Rf.bind (Rf.load _ _) λx=>?_;rw[←Array.map_push];exact Rf.loadCellsFrom a k _ _
def Rf.loadCells(a k):Dc H P n (Array.map (A1 n)) (Go.loadCells a k) (Go.loadCells (Ei n a) k):=by
 have:=Rf.loadCellsFrom (P:=P) (n:=n) (H:=H) a k 0 #[];unfold Go.loadCells;simpa using this
def Rf.storeCells(a):∀(b:iC)i,Dc H P n id (Go.storeCells a b i) (Go.storeCells (Ei n a) (b.map (A1 n)) i)
 |[],_=>Rf.pure iP
 |x::b,i=>by
  unfold Go.storeCells;rw[←Km];exact Rf.bind (Rf.store _ _ _) λ_=>Rf.storeCells a b _
def Rf.loadVar(t a):Dc H P n (A1 n) (Go.loadVar t a) (Go.loadVar t (Ei n a)):=Rf.bind (Rf.isAgg t) λb=>by
 simp only[id];split
 ·exact Rf.bind (Rf.sizeOf _) λ_=>Rf.bind (Rf.loadCells _ _) λ_=>Rf.pure Ad
 ·exact Rf.load _ _
def Rf.storeVar(t a x):Dc H P n id (Go.storeVar t a x) (Go.storeVar t (Ei n a) (A1 n x)):=Rf.bind (Rf.sizeOf t) λk=>by
 simp only[id];rw[Ke,gT];split
 ·exact Rf.bind (f:=id) Rf.stuck λ_=>by rw[bT];exact Rf.storeCells _ _ _
 ·exact Rf.bind (f:=id) (Rf.pure iP) λ_=>by rw[bT];exact Rf.storeCells _ _ _
def Rf.part(t)(cs:iB)(off):Dc H P n (A1 n) (Go.part t cs off) (Go.part t (cs.map (A1 n)) off):=Rf.bind (Rf.isAgg t) λb=>by
 simp only[id];split
 ·exact Rf.bind (Rf.sizeOf _) λ_=>Rf.pure Ad
 ·rw[aN];cases cs[off]? with
  |none=>exact Rf.stuck
  |some x=>exact Rf.pure iP
def Rf.asIntOf(x):Dc H P n id (Go.asIntOf x) (Go.asIntOf (A1 n x)):=by
 cases x with
 |int k i=>rw[Bz];exact Rf.pure iP
 |pointer a=>cases a<;>first|exact Rf.stuck|exact Rf.unsup
 |_=>exact Rf.stuck
def Rf.asInt(x):Dc H P n id (Go.asInt x) (Go.asInt (A1 n x)):=Rf.bind (Rf.asIntOf x) λ_=>Rf.pure iP
def Rf.asBool(x):Dc H P n id (Go.asBool x) (Go.asBool (A1 n x)):=by
 cases x with
 |bool b=>rw[Ct];exact Rf.pure iP
 |_=>exact Rf.stuck
def Rf.asAgg(x):Dc H P n (Array.map (A1 n)) (Go.asAgg x) (Go.asAgg (A1 n x)):=by
 cases x with
 |agg b=>rw[Cc];exact Rf.pure iP
 |_=>exact Rf.stuck
def Rf.asAddr(x):Dc H P n (Ei n) (Go.asAddr x) (Go.asAddr (A1 n x)):=by
 cases x with
 |pointer a=>
  cases a with
  |none=>exact Rf.never (by unfold Go.asAddr;exact Jx _)
  |some a=>rw[A8];exact Rf.pure iP
 |_=>exact Rf.stuck
def Rf.sureAddr(x):Dc H P n (Ei n) (Instr.sureAddr x) (Instr.sureAddr (A1 n x)):=by
 cases x with
 |pointer t=>rw[A8];cases t<;>first|exact Rf.stuck|exact Rf.pure iP
 |_=>exact Rf.stuck
def Rf.listMapM{f:b->c}{g:a->d}{k:b->Sem a}{q:c->Sem d}(h:∀x,Dc H P n g (k x) (q (f x))):∀l:List b,Dc H P n (List.map g) (l.mapM k) ((l.map f).mapM q)
 |[]=>by exact Rf.pure iP
 |x::l=>by
  simp only[bA,List.mapM_cons];exact Rf.bind (h x) λ_=>Rf.bind (Rf.listMapM h l) λ_=>Rf.pure iP
def Rf.arrayMapM{f:b->c}{g:a->d}{k:b->Sem a}{k':c->Sem d}(h:∀x,Dc H P n g (k x) (k' (f x)))(l:Array b):Dc H P n (Array.map g) (l.mapM k) ((l.map f).mapM k'):=by
 rw[Array.mapM_eq_mapM_toList,Array.mapM_eq_mapM_toList,bT];exact Rf.map (Rf.listMapM h _) λe=>Ad
end
def Ia(P:I):Prop:=∀t i z,P.info? t=ni i->i.zero=ni z->∀n,A1 n z=z
section
variable {n:Ren}
def Rf.typeInfoIn(t){g:a->d}{k:TypeInfo->Sem a}{q:TypeInfo->Sem d}(h:∀i,P.info? t=ni i->Dc H P n g (k i) (q i)):Dc H P n g (Go.typeInfo t >>= k) (Go.typeInfo t >>= q):=by
 show Dc H P n g (Go.program >>= λp=>(match p.info? t with|some i=>(Pure.pure i:Sem TypeInfo)|none=>Go.stuck "no such type") >>= k) (Go.program >>= λp=>(match p.info? t with|some i=>(Pure.pure i:Sem TypeInfo)|none=>Go.stuck "no such type") >>= q);apply Rf.programIn;cases V:P.info? t with
 | none=>exact Rf.never (Cz iP trivial)
 | some i=>exact h i V
def Rf.zeroValue(N:Ia P)(t):Dc H P n (A1 n) (Go.zeroValue t) (Go.zeroValue t):=by
 refine Rf.typeInfoIn t λi V=>?_;cases h:i.zero with
 |none=>exact Rf.unsup
 |some z=>exact Rf.pure (N t i z V h n).symm
def Rf.alloc(N:Ia P)(e b x):Dc H P n (A1 n) (Instr.alloc e b x) (Instr.alloc e b (A1 n x)):=by
 refine Rf.bind (Rf.zeroValue N e) λz=>?_;have K:Dc H P n (A1 n) (do let a ←Go.newVar e z;Pure.pure (Value.pointer (ni a))) (do let a ←Go.newVar e (A1 n z);Pure.pure (Value.pointer (ni a))):=Rf.bind (Rf.newVar _ _) λ_=>Rf.pure Ad;cases b with
 |true=>cases x<;>simpa using K
 |false=>
  cases x with
  |pointer a=>
   cases a with
   |none=>simpa using K
   |some a=>
    simp only[A8,aI];exact Rf.bind (Rf.storeVar _ _ _) λ_=>Rf.pure Ad
  |_=>simpa using K
def Rf.box(e x):Dc H P n (A1 n) (Instr.box e x) (Instr.box e (A1 n x)):=Rf.bind (Rf.newVar _ _) λ_=>Rf.pure Ad
def LW(off):∀(l:List (T×Nat)) (cs:iB),(l.map λx=>(A1 n x.1,x.2)).foldl (λcs x=>cs.setIfInBounds (off+x.2) x.1) (cs.map (A1 n))=(l.foldl (λcs x=>cs.setIfInBounds (off+x.2) x.1) cs).map (A1 n)
 |[],cs=>rfl
 |x::l,cs=>by
  simp only[bA,fP];rw[←LW off l,Array.map_setIfInBounds]
def Qg(a:Nat->Option (Nat×Nat)):∀c (cs:iB),Instr.fill a (cs.map (A1 n)) (c.map λx=>(x.1,A1 n x.2))=(Instr.fill a cs c).map (Array.map (A1 n))
 |[],cs=>rfl
 |(i,x)::c,cs=>by
  simp only[bA,Instr.fill];cases a i with
  |none=>rfl
  |some f=>
   have ⟨off,d⟩:=f;simp only[Ke,gT];split
   ·rfl
   ·rw[←Qg a c]
    congr 1
    rw[←fV,←fV,←LW off]
    congr 1
    simp[Array.toList_zipIdx,List.zipIdx_map]
def Rf.build(N:Ia P)(t a):Dc H P n (A1 n) (Instr.build t a) (Instr.build t (a.map λx=>(x.1,A1 n x.2))):=by
 refine Rf.bind (Rf.zeroValue N t) λz=>?_;refine Rf.bind (Rf.underlying t) λd=>?_;simp only[id,Ke,bT];cases d with
 |struct L=>
  have b:Dc H P n _ _ ((L.map id).mapM λf=>do let s ←Go.sizeOf f.type;Pure.pure (f.offset,s)):=Rf.arrayMapM (g:=id) (λx=>by exact Rf.bind (Rf.sizeOf (P:=P) (n:=n) (H:=H) x.type) λs=>Rf.pure iP) L;rw[Array.map_id]at b;refine Rf.bind b λu=>?_;rw[Array.map_id,Qg];exact Dn7
 |array k e=>
  refine Rf.bind (Rf.sizeOf _) λg=>?_;simp only[id];rw[Qg];exact Dn7
 |_=>exact Rf.stuck
def Sd(N:z.map (A1 n)=z)(m):((Array.range m).map (z[· % z.size]!)).map (A1 n)=(Array.range m).map (z[· % z.size]!):=by
 rw[Array.map_map];refine Array.map_congr_left λi V=>?_;simp only[Function.comp];by_cases h:i % z.size<z.size
 ·grind
 ·rw[getElem!_neg z _ h];exact Ct n _
def Rf.zeroCellsOf(N:Ia P)(t){g:a->d}{k:T->Sem a}{q:T->Sem d}(h:∀z,A1 n z=z->Dc H P n g (k z) (q z)):Dc H P n g (Go.zeroValue t >>= k) (Go.zeroValue t >>= q):=by
 unfold Go.zeroValue;rw[bind_assoc,bind_assoc];refine Rf.typeInfoIn t λi V=>?_;cases B:i.zero with
 |none=>exact Rf.never (Cz iP trivial)
 |some z=>exact h z (N t i z V B n)
def Wa{z}(h:A1 n z=z):z.cells.map (A1 n)=z.cells:=by rw[←Ke,h]
def Rf.buildSlice(N:Ia P)(t l b):Dc H P n (A1 n) (Instr.buildSlice t l b) (Instr.buildSlice t l (b.map λx=>(x.1,A1 n x.2))):=by
 refine Rf.bind (Rf.underlying t) λd=>?_;simp only[id,bT];cases d with
 |slice e=>
  refine Rf.bind (Rf.sizeOf _) λa=>?_;simp only[id];split
  ·exact Rf.never (Cz iP trivial)
  ·split
   ·rw[pure_bind,pure_bind];have S:=Qg (n:=n) (λi=>ni (i * a,a)) b.toList ((Array.range (l * a)).map ((#[]:iB)[· % ((#[]:iB)).size]!));rw[Sd Ad]at S;exact Pn6
   ·refine Rf.zeroCellsOf N e λz B=>?_;rw[pure_bind,pure_bind];have S:=Qg (n:=n) (λi=>ni (i * a,a)) b.toList ((Array.range (l * a)).map (z.cells[· % (z.cells).size]!));rw[Sd (Wa B)]at S;exact Pn6
 |_=>exact Rf.stuck
def Rf.extract(x i):Dc H P n (A1 n) (Instr.extract x i) (Instr.extract (A1 n x) i):=by
 cases x with
 |tuple a=>
  rw[Cd];unfold Instr.extract;dsimp only;rw[aN];cases a[i]? with
  |none=>exact Rf.stuck
  |some x=>exact Rf.pure iP
 |_=>exact Rf.stuck
def Rf.field(t x i):Dc H P n (A1 n) (Instr.field t x i) (Instr.field t (A1 n x) i):=by
 refine Rf.bind (Rf.underlying t) λu=>?_;simp only[id];cases u with
 |struct L=>
  dsimp only;cases L[i]? with
  |none=>exact Rf.stuck
  |some f=>exact Rf.bind (Rf.asAgg x) λ_=>Rf.part _ _ _
 |_=>exact Rf.stuck
def Rf.index(t x i):Dc H P n (A1 n) (Instr.index t x i) (Instr.index t (A1 n x) (A1 n i)):=by
 refine Rf.bind (Rf.asIntOf i) λf=>?_;refine Rf.bind (Rf.underlying t) λd=>?_;simp only[id];cases d with
 |array b e=>
  cases x with
  |agg cs=>
   simp only[Cc];split
   ·exact Rf.bind (Rf.sizeOf _) λ_=>Rf.part _ _ _
   ·exact Rf.bp
  |_=>exact Rf.stuck
 |string=>
  cases x with
  |string s=>
   simp only[Bc];split
   ·exact Rf.pure Ad
   ·exact Rf.bp
  |_=>exact Rf.stuck
 |_=>cases x<;>exact Rf.stuck
def Rf.sliceBound(x y c):Dc H P n id (Instr.sliceBound x y c) (Instr.sliceBound (A1 n x) y c):=by
 refine Rf.bind (Rf.asIntOf x) λa=>?_;simp only[id];split
 ·exact Rf.pure iP
 ·exact Rf.bp
def Rf.sliceBounds(b l c s V C):Dc H P n id (Instr.sliceBounds b l c s V C) (Instr.sliceBounds b l c (s.map (A1 n)) (V.map (A1 n)) (C.map (A1 n))):=by
 cases C<;>cases V<;>cases s<;>simp only[Option.map_none,aI, Option.isSome_some]
 all_goals repeat' first|exact Rf.stuck|exact Rf.pure iP|refine Rf.bind (Rf.sliceBound _ _ _) (λ_=>?_)|refine Rf.bind (f:=id) (Rf.pure iP) (λ_=>?_)|exact Rf.never _
end
section
variable {n:Ren}
def MA(r):Ko P (Go.shape r):=λv h U Y=>by cases Y
def IC(a):Ko P (Go.frozen a):=λv h U Y=>by cases Y
def Qh(a l m)(b:iE)(x):Ko P (qv a l m b x):=by
 unfold qv Builtin.holdsCells
 repeat' first|exact If _|exact MA _|exact IC _|refine Ie ?_ (λ_=>?_)|split|dsimp only
def Rf.loadAt(t a):Dc H P n (A1 n) (Instr.loadAt t a) (Instr.loadAt t (A1 n a)):=Rf.bind (Rf.sureAddr a) λ_=>Rf.loadVar _ _
def Rf.storeAt(t a x):Dc H P n id (Instr.storeAt t a x) (Instr.storeAt t (A1 n a) (A1 n x)):=Rf.bind (Rf.sureAddr a) λ_=>Rf.storeVar _ _ _
def Ahq(a:iE)(k):(a.map (Ei n)).map (·.add k)=(a.map (·.add k)).map (Ei n):=by
 cases a<;>simp[Km]
def Rf.slice(t x b V C):Dc H P n (A1 n) (Instr.slice t x b V C) (Instr.slice t (A1 n x) (b.map (A1 n)) (V.map (A1 n)) (C.map (A1 n))):=by
 refine Rf.bind (Rf.underlying t) λd=>?_;cases d with
 |string=>
  cases x with
  |string s=>
   simp only[Bc,Option.isSome_map];split
   ·exact Rf.never (Cz iP trivial)
   ·exact Rf.bind (Rf.sliceBounds o9 s.size s.size b V su) λ_=>Rf.pure Ad
  |_=>exact Rf.stuck
 |slice e=>
  cases x with
  |slice a f I=>
   simp only[Bo];refine Rf.bind (Rf.sliceBounds tu f I b V C) λq=>Rf.bind (Rf.sizeOf _) λc=>Rf.pure ?_;simp only[id,Bo];split
   ·rfl
   ·rw[Ahq]
  |_=>exact Rf.stuck
 |pointer g=>
  refine Rf.bind (Rf.asAddr x) λa=>Rf.bind (Rf.underlying _) λd=>?_;cases d with
  |array k e=>
   refine Rf.bind (Rf.sliceBounds o9 k k b V C) λq=>Rf.bind (Rf.sizeOf _) λc=>Rf.pure ?_;simp only[id,Bo,aI];split
   ·rfl
   ·rw[Km]
  |_=>exact Rf.stuck
 |_=>cases x<;>exact Rf.stuck
def Rf.sliceAt(t x s V C):Dc H P n (A1 n) (Instr.sliceAt t x s V C) (Instr.sliceAt t (A1 n x) (s.map (A1 n)) (V.map (A1 n)) (C.map (A1 n))):=by
 refine Rf.bind (Rf.underlying t) λd=>?_;cases d with
 |array k e=>
  refine Rf.bind (Rf.sureAddr x) λa=>Rf.bind (Rf.sliceBounds o9 k k s V C) λq=>Rf.bind (Rf.sizeOf _) λc=>Rf.pure ?_;simp only[id,Bo,aI];split
  ·rfl
  ·rw[Km]
 |_=>exact Rf.slice _ _ _ _ _
def Rf.indexAt(t x i):Dc H P n (A1 n) (Instr.indexAt t x i) (Instr.indexAt t (A1 n x) (A1 n i)):=by
 refine Rf.bind (Rf.asIntOf i) λf=>?_;refine Rf.bind (Rf.underlying t) λd=>?_;simp only[id];cases d with
 |array b e=>
  refine Rf.bind (Rf.sureAddr x) λa=>?_;rw[pure_bind,pure_bind];refine Rf.bind (Rf.underlying t) λM=>?_;simp only[id];exact C65
 |slice e=>
  cases x with
  |slice c b g=>
   simp only[Bo];rw[pure_bind,pure_bind];refine Rf.bind (Rf.underlying t) λM=>?_;cases c with
   |none=>exact Rf.bp
   |some a=>
    simp only[aI];exact C65
  |_=>exact Rf.never (Cz iP trivial)
 |_=>cases x<;>exact Rf.never (Cz iP trivial)
def Rf.makeSlice(N:Ia P)(t l c):Dc H P n (A1 n) (Instr.makeSlice t l c) (Instr.makeSlice t (A1 n l) (A1 n c)):=by
 refine Rf.bind (Rf.underlying t) λd=>?_;cases d with
 |slice e=>
  refine Rf.bind (Rf.asInt l) λg=>Rf.bind (Rf.asInt c) λI=>Rf.bind (Rf.typeInfo e) λT=>?_;simp only[id];split
  ·split
   ·exact Rf.never (D8 (Jx _))
   ·split
    ·exact Rf.never (D8 (Jx _))
    ·exact Rf.never (Gs (Oy _) λ_=>D8 (Jx _))
  ·refine Rf.bind (Rf.askRoom _) λ_=>Rf.bind (Rf.sizeOf e) λa=>?_;simp only[id];split
   ·refine Rf.bind (f:=Ei n) ?_ λ_=>Rf.pure Ad;have:=Rf.newRow (P:=P) (n:=n) (H:=H) e ((Array.range ((IntKind.i64.wrap I).toNat * a)).map ((#[]:iB)[· % (#[]:iB).size]!))
    grind
   ·refine Rf.zeroCellsOf N e λz B=>?_;refine Rf.bind (f:=Ei n) ?_ λ_=>Rf.pure Ad;have:=Rf.newRow (P:=P) (n:=n) (H:=H) e ((Array.range ((IntKind.i64.wrap I).toNat * a)).map (z.cells[· % z.cells.size]!))
    rwa[Sd (Wa B)]at this
 |_=>exact Rf.stuck
def Rf.lenOf(x):Dc H P n id (Builtin.lenOf x) (Builtin.lenOf (A1 n x)):=by
 cases x with
 |slice a l c=>rw[Bo];exact Rf.pure iP
 |string s=>rw[Bc];exact Rf.pure iP
 |_=>exact Rf.stuck
def Rf.firstCells(s k x):Dc H P n (Array.map (A1 n)) (ur s k x) (ur s k (A1 n x)):=by
 cases x with
 |slice a l c=>
  rw[Bo];cases a with
  |none=>exact Rf.pure Ad
  |some a=>exact Rf.loadCells _ _
 |string s=>rw[Bc];exact Rf.pure (by simp[dW])
 |_=>exact Rf.stuck
def Rf.copy(L t)(X:iB):Dc H P n (A1 n) (uo L t X) (uo L t (X.map (A1 n))):=by
 unfold uo;simp only[aN];cases L[0]? with
 |none=>exact Rf.stuck
 |some d=>
  cases X[0]? with
  |none=>exact Rf.stuck
  |some x=>
   cases X[1]? with
   |none=>exact Rf.stuck
   |some k=>
    simp only[aI];refine Rf.bind (Rf.underlying d) λu=>?_;simp only[id];cases u with
    |slice e=>
     simp only;cases x with
     |slice a l c=>
      simp only[Bo];refine Rf.bind (Rf.lenOf k) λb=>Rf.bind (Rf.sizeOf e) λg=>Rf.bind (Rf.firstCells _ _ _) λcs=>?_;simp only[id];cases a with
      |none=>exact Rf.pure Vw
      |some f=>
       simp only[aI,bT];exact Rf.bind (Rf.storeCells _ _ _) λ_=>Rf.pure Vw
     |_=>exact Rf.stuck
    |_=>exact Rf.stuck
def DM(N:z.map (A1 n)=z)(m):(yy z m).map (A1 n)=yy z m:=Sd N _
def Rf.underlyingIn(t){g:a->d}{k:xz->Sem a}{q:xz->Sem d}(h:∀b,P.underlying t=ni b->Dc H P n g (k b) (q b)):Dc H P n g (Go.underlying t >>= k) (Go.underlying t >>= q):=by
 show Dc H P n g (Go.program >>= λp=>(match p.underlying t with|some i=>(Pure.pure i:Sem xz)|none=>Go.stuck "no such type") >>= k) (Go.program >>= λp=>(match p.underlying t with|some i=>(Pure.pure i:Sem xz)|none=>Go.stuck "no such type") >>= q);apply Rf.programIn;cases V:P.underlying t with
 | none=>exact Rf.never (Cz iP trivial)
 | some i=>exact h i V
def VA(N:Ia P)(e)(I a:iB)(m){z}(h:A1 n z=z):Dc H P n (Ei n) (Go.newRow e (I++a++yy z.cells m)) (Go.newRow e (I.map (A1 n)++a.map (A1 n)++yy z.cells m)):=by
 have:=Rf.newRow (P:=P) (n:=n) (H:=H) e (I++a++yy z.cells m)
 rwa[dD,dD,DM (Wa h)]at this
def Rf.append(N:Ia P)(L t)(X:iB)(E:∀j,L[1]?=ni j->∀c,P.underlying j≠ni (.int c)):Dc H P n (A1 n) (o7 L t X) (o7 L t (X.map (A1 n))):=by
 unfold o7;simp only[aN];cases L[0]? with
 |none=>exact Rf.stuck
 |some d=>
  cases X[0]? with
  |none=>exact Rf.stuck
  |some s=>
   cases X[1]? with
   |none=>exact Rf.stuck
   |some k=>
    simp only[aI];refine Rf.bind (Rf.underlying d) λu=>?_;simp only[id];cases u with
    |slice e=>
     simp only;cases s with
     |slice a l f=>
      simp only[Bo];refine Rf.bind (Rf.sizeOf e) λg=>?_;simp only[id];cases C:L[1]? with
      |none=>
       simp only[pure_bind,aR,↓reduceIte,Bool.not_false,false_or];refine Rf.bind (Rf.lenOf k) λm=>?_;simp only[id];split
       ·exact Dom
       ·exact A0p
      |some j=>
       simp only;refine Rf.underlyingIn j λU q=>?_;cases U
       case int c=>exact absurd q (E j C c)
       all_goals
        simp only[pure_bind,aR,↓reduceIte,Bool.not_false,false_or];refine Rf.bind (Rf.lenOf k) λm=>?_;simp only[id];split
        ·exact Dom
        ·exact A0p
     |_=>exact Rf.stuck
    |_=>exact Rf.stuck
end
section
variable {n:Ren}
def Rf.viewAt(r):Dc H P n (Option.map λx=>(Ei n x.1,x.2)) (Go.viewAt r) (Go.viewAt (sh n r)):=by
 exact Rku
def Rf.numberAt(r):Dc H P n (Option.map λx=>(Ei n x.1,x.2)) (Go.numberAt r) (Go.numberAt (sh n r)):=by
 exact Rku
def Rf.behindNumber(a):Dc H P n (λx=>(Ei n x.1,x.2)) (Go.behindNumber a) (Go.behindNumber (Ei n a)):=by
 refine Rf.bind (Rf.numberAt a.block) λx=>Rf.pure ?_;cases x<;>rfl
def Rf.noView(a):Dc H P n id (Go.noView a) (Go.noView (Ei n a)):=by
 refine Rf.bind (Rf.viewAt a.block) λo=>?_;rw[Option.isSome_map];split
 ·exact Rf.unsup
 ·exact Rf.pure iP
def Rf.byteOf(a):Dc H P n id (Go.byteOf a) (Go.byteOf (Ei n a)):=by
 unfold Go.byteOf
 show Dc H P n id _ (match a.3 with|some s=>(Pure.pure s:Sem Nat)|_=>_);cases a.3 with
 |some s=>exact Rf.pure iP
 |none=>
  refine Rf.bind Rf.program λp=>Rf.bind (Rf.noView a) λ_=>Rf.shapeThen a.block (λs=>?_) (λe=>.inr λm=>rfl);simp only[id];cases s with
  |none=>exact Rf.stuck
  |some s=>
   dsimp only;split
   ·exact Rf.pure iP
   ·show Dc H P n id _ (match byteOfCell p p.depth s.1 (a.off % p.cellsOf s.1) with|some b=>Pure.pure (a.off / p.cellsOf s.1 * p.bytesOf s.1+b)|_=>_);cases byteOfCell p p.depth s.1 _ with
    |none=>exact Rf.stuck
    |some b=>exact Rf.pure iP
def Rf.partAt(a k m):Dc H P n (Ei n) (Go.partAt a k m) (Go.partAt (Ei n a) k m):=by
 refine Rf.bind (Rf.byteOf a) λb=>Rf.bind (Rf.byteOf (P:=P) (n:=n) (H:=H) { block:=a.block,off:=a.off+k }) λJ=>Rf.pure ?_;simp only[id];split<;>rfl
def Rf.fieldPlace(a f):Dc H P n (Ei n) (Go.fieldPlace a f) (Go.fieldPlace (Ei n a) f):=by
 refine Rf.bind (Rf.sizeOf _) λs=>?_;simp only[id];split
 ·exact Rf.partAt _ _ _
 ·exact Rf.pure (Km n a f.offset).symm
def Rf.fieldAt(s a f):Dc H P n (A1 n) (Instr.fieldAt s a f) (Instr.fieldAt s (A1 n a) f):=by
 refine Rf.bind (Rf.underlying _) λd=>?_;simp only[id];cases d with
 |struct L=>
  dsimp only;cases L[f]? with
  |none=>exact Rf.stuck
  |some f=>exact Rf.bind (Rf.sureAddr _) λ_=>Rf.bind (Rf.fieldPlace _ _) λ_=>Rf.pure Ad
 |_=>exact Rf.stuck
def Ae7(n a b):(Ei n a==Ei n b)=(a==b):=by
 rw[eW,beq_iff_eq,beq_iff_eq];exact⟨Aif,λh=>by rw[h]⟩
def TF(n i j):(sh n i==sh n j)=(i==j):=by
 rw[eW,beq_iff_eq,beq_iff_eq];exact Al8
def Rf.listForInMem{k q:a->b->Sem (ForInStep b)}:∀(l:List a)c,(∀x,x∈l->∀y,Dc H P n id (k x y) (q x y))->Dc H P n id (forIn l c k) (forIn l c q)
 |[],c,h=>by exact Rf.pure iP
 |x::l,c,h=>by
  rw[fQ,fQ];refine Rf.bind (h x Ad c) λs=>?_;cases s with
  |done c=>exact Rf.pure iP
  |yield c=>exact Rf.listForInMem l c λy U=>h y (by simp[U])
def Rf.arrayForInMem{k q:a->b->Sem (ForInStep b)}(l:Array a)(c)(h:∀x,x∈l->∀y,Dc H P n id (k x y) (q x y)):Dc H P n id (forIn l c k) (forIn l c q):=by
 rw[←eZ,←eZ];exact Rf.listForInMem _ _ λx Z=>h x SR
def Rf.rangeForIn{k q:Nat->a->Sem (ForInStep a)}(h:∀x y,Dc H P n id (k x y) (q x y))(l:Std.Legacy.Range)(b):Dc H P n id (forIn l b k) (forIn l b q):=by
 rw[fM,fM];exact Rf.listForInMem _ _ λx _ y=>h x y
def Zo(P:I):Nat->Z->Bool
 |0,_=>o9
 |d+1,t=>match P.underlying t with
  |some .bool=>tu
  |some (.int _)=>tu
  |some .string=>tu
  |some (.slice _)=>tu
  |some (.map _ _)=>tu
  |some (.func _ _ _)=>tu
  |some (.struct fs)=>fs.all λf=>Zo P d f.type
  |some (.array _ e)=>Zo P d e
  |_=>o9
def Ae8{G i}(h:n.Fix G):(sh n i<G)=(i<G):=by
 refine propext ⟨λV=>?_,λV=>?_⟩
 ·have:=Gx (h _ V:sh n (sh n i)=sh n i);omega
 ·rwa[show sh n i=i from h i V]
def Rf.equalIn(p:n.Fix P.globals.size):∀m(t:Z),Zo P m t=tu->∀d(x y:T),Dc H P n id (wh d t x y) (wh d t (A1 n x) (A1 n y)):=by
 intro m
 induction m with
 |zero=>intro t h;cases h
 |succ m O=>
  intro t h d x y;cases d with
  |zero=>exact Rf.unsup
  |succ d=>
   unfold wh;refine Rf.underlyingIn t λu v=>?_;unfold Zo at h;rw[v]at h;cases u with
   |bool=>
    cases x<;>first|exact Rf.stuck|(cases y<;>first|exact Rf.stuck|(simp only[Ct];exact Rf.pure iP))
   |string=>
    cases x<;>first|exact Rf.stuck|(cases y<;>first|exact Rf.stuck|(simp only[Bc];exact Rf.pure iP))
   |int E=>
    cases x with
    |int C a=>
     cases y with
     |int w b=>
      simp only[Bz];split
      ·exact Rf.pure iP
      ·exact Rf.stuck
     |pointer b=>cases b<;>(cases a with
      |ofNat z=>cases z<;>first|exact Rf.unsup|(rw[Bz,A8];exact Rf.pure iP)
      |negSucc z=>exact Rf.unsup)
     |_=>exact Rf.stuck
    |pointer a=>
     cases a with
     |none=>cases y<;>exact Rf.unsup
     |some a=>
      cases y with
      |int w b=>cases b with
       |ofNat z=>cases z<;>first|exact Rf.unsup|(rw[Bz,A8];exact Rf.pure iP)
       |negSucc z=>exact Rf.unsup
      |pointer b=>
       cases b with
       |none=>exact Rf.unsup
       |some b=>
        simp only[A8,aI];refine Rf.bind (Rf.behindNumber a) λc=>Rf.bind (Rf.behindNumber b) λg=>?_;dsimp only;apply Rf.programIn;have i:((Ei n c.1).block==(Ei n g.1).block)=(c.1.block==g.1.block):=TF n _ _;have L:decide ((Ei n c.1).block<P.globals.size)=decide (c.1.block<P.globals.size):=decide_eq_decide.2 (iff_of_eq (Ae8 p));simp only[i,L,Ae7];split
        ·exact Lmf
        ·refine Rf.bind (Rf.typeInfo t) λT=>?_;simp only[id];split
         ·split
          ·exact Rf.pure iP
          ·exact Rf.unsup
         ·exact Rf.unsup
      |_=>exact Rf.unsup
    |_=>cases y<;>first|exact Rf.stuck|exact Rf.unsup
   |slice e=>
    cases x with
    |slice a l F=>
     cases y with
     |slice b V B=>cases a<;>cases b<;>first|exact Rf.stuck|(simp only[Bo];exact Rf.pure iP)
     |_=>cases a<;>exact Rf.stuck
    |_=>cases y<;>exact Rf.stuck
   |map M J=>
    cases x with
    |map a=>
     cases y with
     |map b=>cases a<;>cases b<;>first|exact Rf.stuck|(simp only[Db];exact Rf.pure iP)
     |_=>cases a<;>exact Rf.stuck
    |_=>cases y<;>exact Rf.stuck
   |func G K N=>
    cases x with
    |nilFunc=>cases y<;>first|exact Rf.stuck|(simp only[B3];exact Rf.pure iP)|(simp only[B3,Cn];exact Rf.pure iP)
    |func D Q A=>cases y<;>first|exact Rf.stuck|(simp only[B3,Cn];exact Rf.pure iP)
    |_=>cases y<;>exact Rf.stuck
   |struct o=>
    cases x with
    |agg X=>
     cases y with
     |agg j=>
      simp only[Cc];apply Rf.programIn;split
      ·exact Rf.never (Cz iP trivial)
      ·refine Rf.bind (Rf.arrayForInMem o _ λf I s=>?_) λr=>?_
       ·have S:Zo P m f.type=tu:=by
         have:=(Array.all_eq_true'.1 h) f I;simpa using this
        split
        ·refine Rf.bind (Rf.part _ _ _) λa=>Rf.bind (Rf.part _ _ _) λb=>Rf.bind (O f.type S d _ _) λr=>?_;simp only[id];split<;>exact Rf.pure iP
        ·exact Rf.pure iP
       ·simp only[id];split<;>exact Rf.pure iP
     |_=>exact Rf.stuck
    |_=>cases y<;>exact Rf.stuck
   |array l e=>
    cases x with
    |agg X=>
     cases y with
     |agg j=>
      simp only[Cc];refine Rf.bind (Rf.sizeOf e) λs=>?_;simp only[id];refine Rf.bind (Rf.rangeForIn (λk q=>?_) _ _) λr=>?_
      ·refine Rf.bind (Rf.part _ _ _) λa=>Rf.bind (Rf.part _ _ _) λb=>Rf.bind (O e h d _ _) λr=>?_;simp only[id];split<;>exact Rf.pure iP
      ·simp only[id];split<;>exact Rf.pure iP
     |_=>exact Rf.stuck
    |_=>cases y<;>exact Rf.stuck
   |_=>cases h
def Rf.equalNil{e}(r:P.underlying t=ni (.pointer e))(h:x=.pointer su∨y=.pointer su):Dc H P n id (gy t x y) (gy t (A1 n x) (A1 n y)):=by
 unfold gy ly wh;refine Rf.underlyingIn t λu c=>?_;rw[r]at c;obtain rfl:=aA c;rcases h with rfl|rfl
 ·cases y<;>first|exact Rf.stuck|skip
  rename_i b;cases b<;>(simp only[A8];exact Rf.pure iP)
 ·cases x<;>first|exact Rf.stuck|skip
  rename_i a;cases a<;>(simp only[A8];exact Rf.pure iP)
end
section
variable {n:Ren}
def Rf.stuckBind{g:a->d}{k:b->Sem a}{t}:Dc H P n g (Go.stuck m >>= k) t:=Rf.never (D8 (Cz (h:=.stuck m) iP trivial))
def Rf.unsupBind{g:a->d}{m}{k:b->Sem a}{t}(h:HB (.unsupported m):=by exact trivial):Dc H P n g (Go.unsupported m >>= k) t:=Rf.never (D8 (Cz iP h))
def Rf.intArith(a k x y):Dc H P n (A1 n) (mq a k x y) (mq a k x y):=by
 unfold mq;exact A9z
def Rf.intDiv(a k x y):Dc H P n (A1 n) (Op.intDiv a k x y) (Op.intDiv a k x y):=by
 unfold Op.intDiv;split
 ·exact Rf.rt
 ·exact A9z
def Rf.intBits(a k x y):Dc H P n (A1 n) (Op.intBits a k x y) (Op.intBits a k x y):=by
 unfold Op.intBits;exact A9z
def Rf.shift(a k x q y):Dc H P n (A1 n) (y8 a k x q y) (y8 a k x q y):=by
 unfold y8;split
 ·exact Rf.rt
 ·exact A9z
def Rf.intCmp(a x y):Dc H P n (A1 n) (Op.intCmp a x y) (Op.intCmp a x y):=by
 unfold Op.intCmp;exact A9z
def Rf.floatArith(b k x y):Dc H P n (A1 n) (ko b k x y) (ko b k x y):=by
 unfold ko;dsimp only
 repeat' first
  |exact Rf.stuck
  |exact Rf.stuckBind
  |exact Rf.pure (B1 n _ _).symm
  |exact Rf.bind (Rf.choose _) λ_=>Rf.pure (B1 n _ _).symm
  |rw[pure_bind]
  |split
def Rf.floatCmp(a k x y):Dc H P n (A1 n) (qn a k x y) (qn a k x y):=by
 unfold qn;exact A9z
def Rf.stringOp(a)(x y:hU):Dc H P n (A1 n) (xi a x y) (xi a x y):=by
 unfold xi;split
 ·split
  ·exact Rf.unsup
  ·exact Rf.pure Ad
 all_goals first|exact Rf.stuck|exact Rf.pure Ad
def Rf.unary(b x):Dc H P n (A1 n) (Op.unary b x) (Op.unary b (A1 n x)):=by
 unfold Op.unary;cases b<;>cases x<;>first
  |exact Rf.stuck
  |(simp only[Bz];exact Rf.intArith _ _ _ _)
  |(simp only[Bz];exact Rf.intBits _ _ _ _)
  |(simp only[B1];exact Rf.pure Ad)
  |(simp only[B0];exact Rf.pure Ad)
  |(simp only[Ct];exact Rf.pure Ad)
  |(rename_i a;cases a<;>first|exact Rf.stuck|exact Rf.unsup)
def Rf.twoPlaces(p:n.Fix P.globals.size)(a b):Dc H P n id (Op.twoPlaces a b) (Op.twoPlaces (Ei n a) (Ei n b)):=by
 have S:((Ei n a).block != (Ei n b).block)=(a.block != b.block):=by
  show(!(sh n a.block==sh n b.block))=(!(a.block==b.block));rw[TF]
 apply Rf.programIn;have L:decide ((Ei n a).block ≥ P.globals.size)=decide (a.block ≥ P.globals.size):=by
  have:=Ae8 (i:=a.block) p;have e:((Ei n a).block ≥ P.globals.size)↔(a.block ≥ P.globals.size):=by
   show P.globals.size<=sh n a.block↔P.globals.size<=a.block
   grind
  exact decide_eq_decide.2 e
 rw[S,L];split
 ·exact Rf.never (Cz iP trivial)
 ·exact Lmf
def Rf.addrSub(p:n.Fix P.globals.size)(k a b):Dc H P n (A1 n) (Op.addrSub k a b) (Op.addrSub k (Ei n a) (Ei n b)):=by
 exact Rf.bind (Rf.twoPlaces p a b) λ_=>Rf.pure Ad
def Rf.addrCmp(p:n.Fix P.globals.size)(c a b):Dc H P n (A1 n) (Op.addrCmp c a b) (Op.addrCmp c (Ei n a) (Ei n b)):=by
 refine Rf.bind (Rf.twoPlaces p a b) λx=>?_;cases c<;>first|exact Rf.unsup|exact Rf.pure Ad
def Rf.addrMod(k a m):Dc H P n (A1 n) (Op.addrMod k a m) (Op.addrMod k (Ei n a) m):=by
 refine Rf.shapeThen a.block (λs=>?_) (λe=>.inr λm=>rfl);cases s with
 |none=>exact Rf.unsup
 |some s=>
  refine Rf.bind (Rf.typeInfo _) λT=>?_;simp only[id];split
  ·exact Rf.never (Cz iP trivial)
  ·exact Rf.bind (Rf.byteOf _) λ_=>Rf.pure Ad
def Rf.asNumber(a l):Dc H P n (A1 n) (Go.asNumber a l) (Go.asNumber (Ei n a) l):=Rf.bind (Rf.newObj (o:=.number a l) trivial) λ_=>Rf.pure (by simp[Ei])
def V8(p d e off m):cellAtBytes p d e 0 off m=su:=by
 unfold cellAtBytes;simp only[Nat.zero_mul];split
 ·rfl
 ·cases byteOfCell p d e _ with
  |none=>rfl
  |some h=>
   grind
def Rf.unsafeAdd(t x y):Dc H P n (A1 n) (ic #[] t #[x,y]) (ic #[] t #[A1 n x,A1 n y]):=by
 unfold ic;cases x with
 | pointer B=>
  rw[A8];refine Rf.bind (Rf.asInt y) λm=>?_;cases B with
  | none=>
   simp only[id,Option.map_none];split
   ·exact Rf.unsup
   ·split
    ·exact Rf.unsupBind
    ·exact Rf.unsup
  | some a=>
   simp only[id,aI];split
   ·refine Rf.bind (Rf.viewAt a.block) λo=>?_;rw[Option.isSome_map];split
    ·exact Rf.unsupBind
    ·exact Rf.pure Ad
   ·split
    ·exact Rf.unsupBind
    ·refine Rf.shapeThen a.block (λs=>?_) (λe=>.inl λv x U Y=>by
      have I:(match cellAtBytes P P.depth e (0 / P.cellsOf e) a.off m with|some off=>(Pure.pure (Value.pointer (ni { a with off })):Sem w8)|none=>Go.unsupported (.unsafePointer "Add")).run P v=.ok x U:=Y;rw [Nat.zero_div,V8] at I;cases I)
     cases s with
     | none=>exact Rf.unsup
     | some s=>
      simp only[id];refine Rf.bind Rf.program λp=>?_;simp only[id]
      show Dc H P n (A1 n) _ (match cellAtBytes p p.depth s.1 (s.2 / p.cellsOf s.1) a.off m with|some off=>Pure.pure (Value.pointer (ni { Ei n a with off }))|none=>Go.unsupported (.unsafePointer "Add"));cases cellAtBytes p p.depth s.1 (s.2 / p.cellsOf s.1) a.off m with
      | none=>exact Rf.unsup
      | some o=>exact Rf.pure (by simp[Ei])
 | _=>exact Rf.stuck
def Rf.movedNumber(t x y):Dc H P n (A1 n) (Go.movedNumber t x y) (Go.movedNumber t (A1 n x) (A1 n y)):=by
 unfold Go.movedNumber;refine Rf.bind (Rf.underlying t) λd=>?_;cases d
 case unsafePointer=>exact Rf.unsupBind
 all_goals
  simp only[id,aR,↓reduceIte];cases x with
  |pointer B=>
   cases B with
   |none=>
    have:=Rf.unsafeAdd (P:=P) (n:=n) (H:=H) t (.pointer su) y
    simp_all
   |some b=>
    simp only[A8,aI];refine Rf.bind (Rf.behindNumber b) λq=>?_;have:=Rf.unsafeAdd (P:=P) (n:=n) (H:=H) t (.pointer (ni q.1)) y;rw[A8,aI]at this;refine Rf.bind this λr=>?_;cases r with
    |pointer a=>
     cases a with
     |none=>rw[A8];exact Rf.pure Ad
     |some a=>rw[A8];exact Rf.asNumber a q.2
    |_=>first|(simp only[Ct,Bz,B1,B0,Bc,B3,Bt,Bo,Db,Dh,Cn,Cf,Cc,Cd];exact Rf.pure Ad)
  |_=>exact Rf.stuck
def Rf.movedPointer(t x y):Dc H P n (A1 n) (Go.movedPointer t x y) (Go.movedPointer t (A1 n x) (A1 n y)):=by
 unfold Go.movedPointer;cases x with
 |pointer B=>
  cases B with
  |none=>
   have:=Rf.unsafeAdd (P:=P) (n:=n) (H:=H) t (.pointer su) y
   simp_all
  |some b=>
   simp only[A8,aI];refine Rf.bind (Rf.numberAt b.block) λq=>?_;split
   ·exact Rf.unsupBind
   ·have:=Rf.unsafeAdd (P:=P) (n:=n) (H:=H) t (.pointer (ni b)) y
    simp_all
 |_=>exact Rf.stuck
end
section
variable {n:Ren}
def Ly(P:I)(Q:b->Prop):Sem b->Prop
 |.pure a=>Q a
 |.choose _ k=>∀x,Ly P Q (k x)
 |.program k=>Ly P Q (k P)
 |.halt h=>HB h
 |_=>False
def Ly.bind{Q:b->Prop}{R:a->Prop}{k:b->Sem a}:∀{s},Ly P Q s->(∀c,Q c->Ly P R (k c))->Ly P R (s >>= k):=by
 intro s
 induction s with
 |pure c=>intro h H;exact H c h
 |choose q f O=>intro h H x;exact O x (h x) H
 |program f O=>intro h H;exact O P h H
 |halt e=>intro h H;exact h
 |_=>intro h;exact h.elim
def Ly.rf{Q:b->Prop}{f:b->b}(c:∀a,Q a->a=f a):∀{s},Ly P Q s->Dc H P n f s s:=by
 intro s
 induction s with
 |pure a=>exact λh=>Rf.pure (c a h)
 |choose q k O=>exact λh=>Rf.bind (Rf.choose q) λx=>O x (h x)
 |program k O=>exact λh=>Rf.programIn (O P h)
 |halt e=>exact λh=>Rf.never (Cz iP h)
 |_=>exact λh=>h.elim
def Fl0(x:T):Prop:=(∃k b,x=.float k b)∨(∃b,x=.bool b)∨∃k a b,x=.complex k a b
def Fl0.ren(h:Fl0 x):x=A1 n x:=by
 rcases h with⟨k,b,rfl⟩|⟨b,rfl⟩|⟨k,a,b,rfl⟩<;>simp
def Yd(a k x y):Ly P (λv=>∃b,v=Value.float k b) (ko a k x y):=by
 unfold ko;dsimp only
 repeat' first
  |exact trivial
  |exact⟨_,iP⟩
  |exact λ_=>⟨_,iP⟩
  |rw[pure_bind]
  |split
def CU(a k x y):Ly P (λv=>∃b,v=Value.bool b) (qn a k x y):=by
 unfold qn;split<;>first|exact⟨_,iP⟩|exact trivial
def Rf.eqGuardIn:∀d(t:mi)x y,Dc H P n id (zl d t x y) (zl d t (A1 n x) (A1 n y))
 |0,t,x,y=>Rf.unsup
 |d+1,t,x,y=>by
  unfold zl;refine Rf.bind (Rf.underlying t) λu=>?_;simp only[id];cases u with
  |interface Z=>
   cases x with
   |nilIface=>cases y<;>first|(simp only[Bt];exact Rf.pure iP)|(simp only[Bt,Ct,Bz,B1,B0,Bc,B3,Bo,Db,Dh,Cn,Cf,Cc,Cd,A8];exact Rf.pure iP)
   |_=>first|exact Rf.pure iP|(simp only[Ct,Bz,B1,B0,Bc,B3,Bo,Db,Dh,Cn,Cf,Cc,Cd,A8];exact Rf.pure iP)
  |struct o=>
   cases x with
   |agg X=>
    cases y with
    |agg j=>
     simp only[Cc];refine Rf.bind (Rf.arrayForInMem o _ λf I s=>?_) λr=>?_
     ·split
      ·refine Rf.bind (Rf.part _ _ _) λa=>Rf.bind (Rf.part _ _ _) λb=>Rf.bind (Rf.eqGuardIn d f.type _ _) λr=>?_;simp only[id];split<;>exact Rf.pure iP
      ·exact Rf.pure iP
     ·simp only[id];split<;>exact Rf.pure iP
    |_=>first|exact Rf.pure iP|(simp only[Ct,Bz,B1,B0,Bc,B3,Bt,Bo,Db,Dh,Cn,Cf,Cc,Cd,A8];exact Rf.pure iP)
   |_=>first|exact Rf.pure iP|(simp only[Ct,Bz,B1,B0,Bc,B3,Bt,Bo,Db,Dh,Cn,Cf,Cc,Cd,A8];exact Rf.pure iP)
  |array l e=>
   cases x with
   |agg X=>
    cases y with
    |agg j=>
     simp only[Cc];refine Rf.bind (Rf.sizeOf e) λs=>?_;simp only[id];refine Rf.bind (Rf.rangeForIn (λk q=>?_) _ _) λr=>?_
     ·refine Rf.bind (Rf.part _ _ _) λa=>Rf.bind (Rf.part _ _ _) λb=>Rf.bind (Rf.eqGuardIn d e _ _) λr=>?_;simp only[id];split<;>exact Rf.pure iP
     ·simp only[id];split<;>exact Rf.pure iP
    |_=>first|exact Rf.pure iP|(simp only[Ct,Bz,B1,B0,Bc,B3,Bt,Bo,Db,Dh,Cn,Cf,Cc,Cd,A8];exact Rf.pure iP)
   |_=>first|exact Rf.pure iP|(simp only[Ct,Bz,B1,B0,Bc,B3,Bt,Bo,Db,Dh,Cn,Cf,Cc,Cd,A8];exact Rf.pure iP)
  |_=>exact Rf.pure iP
end
section
variable {n:Ren}
abbrev Mu(P:I){b}(s:Sem b):Prop:=Ly P (λ_=>True) s
def Mu.bind{s}{k:b->Sem a}(h:Mu P s)(E:∀c,Mu P (k c)):Mu P (s >>= k):=Ly.bind h λc _=>E c
def Mu.ff(s x d):Ly P (λv=>∃b,v=Value.float d b) (Conv.floatToFloat s x d):=by
 unfold Conv.floatToFloat
 repeat' first
  |exact trivial
  |exact⟨_,iP⟩
  |exact λ_=>⟨_,iP⟩
  |rw[pure_bind]
  |split
  |dsimp only
def Mu.arith(op k x y):Mu P (ky op k x y):=by
 unfold ky;refine Ly.bind (Yd op k x y) λv h=>?_;obtain⟨b,rfl⟩:=h;exact trivial
def Mu.cmp(op k x y):Mu P (qf op k x y):=by
 unfold qf;refine Ly.bind (CU op k x y) λv h=>?_;obtain⟨b,rfl⟩:=h;exact trivial
def Mu.conv(s x d):Mu P (xl s x d):=by
 unfold xl;split
 ·exact trivial
 ·refine Ly.bind (Mu.ff s x d) λv h=>?_;obtain⟨b,rfl⟩:=h;exact trivial
def Mu.product(a b c d):Mu P (zr a b c d):=by
 unfold zr ze lh xd
 repeat' first|exact trivial|refine Mu.bind (Mu.arith _ _ _ _) (λ_=>?_)
def Mu.corrected(s a b c d):Mu P (iu s a b c d):=by
 unfold iu ze lh xd
 repeat' first|exact trivial|refine Mu.bind (Mu.arith _ _ _ _) (λ_=>?_)
def Mu.quotient(a b c d):Mu P (vo a b c d):=by
 unfold vo ze lh xd Op.Complex.quo
 repeat' first|exact trivial|exact Mu.corrected _ _ _ _ _|refine Mu.bind (Mu.arith _ _ _ _) (λ_=>?_)|refine Mu.bind (Mu.cmp _ _ _ _) (λ_=>?_)|rw[pure_bind]|dsimp only|split
def AF(op k a b c d):Ly P Fl0 (uy op k a b c d):=by
 unfold uy
 repeat' first
  |exact trivial
  |exact .inr (.inl ⟨_,iP⟩)
  |exact .inr (.inr ⟨_,_,_,iP⟩)
  |refine Ly.bind (Mu.arith _ _ _ _) (λ_ _=>?_)
  |refine Ly.bind (Mu.cmp _ _ _ _) (λ_ _=>?_)
  |refine Ly.bind (Mu.conv _ _ _) (λ_ _=>?_)
  |refine Ly.bind (Mu.product _ _ _ _) (λ_ _=>?_)
  |refine Ly.bind (Mu.quotient _ _ _ _) (λ_ _=>?_)
  |dsimp only
  |split
def Rf.complexOp(op k a b c d):Dc H P n (A1 n) (uy op k a b c d) (uy op k a b c d):=Ly.rf (λx h=>h.ren) (AF op k a b c d)
def Rf.equal(p:n.Fix P.globals.size){m}(h:Zo P m t=tu)(x y):Dc H P n id (gy t x y) (gy t (A1 n x) (A1 n y)):=Rf.equalIn p m t h _ x y
end
section
variable {n:Ren}
def Rf.boolOf{t}(h:Dc H P n id s t):Dc H P n (A1 n) (do Pure.pure (Value.bool (←s))) (do Pure.pure (Value.bool (←t))):=Rf.bind h λ_=>Rf.pure Ad
def Rf.notOf{t}(h:Dc H P n id s t):Dc H P n (A1 n) (do Pure.pure (Value.bool (!(←s)))) (do Pure.pure (Value.bool (!(←t)))):=Rf.bind h λ_=>Rf.pure Ad
def Rf.iteStuck{a}[Decidable a]{f:b->c}{s t}(h:¬a->Dc H P n f s t):Dc H P n f (if a then Go.stuck m else s) (if a then Go.stuck m else t):=by
 split
 ·exact Rf.stuck
 ·exact h ‹_›
def Rf.ite{a}[Decidable a]{f:b->c}{s W t S}(h:Dc H P n f s t)(d:Dc H P n f W S):Dc H P n f (if a then s else W) (if a then t else S):=by
 split
 ·exact h
 ·exact d
def Rf.binOp(p:n.Fix P.globals.size)(f t x y)(h:f=.eql∨f=.neq->Dc H P n id (gy t x y) (gy t (A1 n x) (A1 n y))):Dc H P n (A1 n) (Go.binOp f t x y) (Go.binOp f t (A1 n x) (A1 n y)):=by
 cases x with
 |int k a=>
  cases y with
  |int q b=>
   simp only[Bz];cases f
   case shl=>exact(Rf.shift .shl k a q b:Dc H P n (A1 n) (y8 .shl k a q b) _)
   case shr=>exact(Rf.shift .shr k a q b:Dc H P n (A1 n) (y8 .shr k a q b) _)
   all_goals refine Rf.iteStuck λ_=>?_
   all_goals first|exact Rf.intArith _ _ _ _|exact Rf.intDiv _ _ _ _|exact Rf.intBits _ _ _ _|exact Rf.intCmp _ _ _
  |pointer b=>
   simp only[Bz,A8]at h⊢;cases f
   case eql=>exact Rf.boolOf (h (.inl iP))
   case neq=>exact Rf.notOf (h (.inr iP))
   case add=>have:=Rf.movedNumber (P:=P) (n:=n) (H:=H) t (.pointer b) (.int k a);rw[Bz,A8]at this;exact this
   case and=>
    cases b with
    |none=>exact Rf.unsup
    |some b=>exact Rf.bind (Rf.behindNumber b) λ_=>Rf.addrMod _ _ _
   all_goals first|exact Rf.unsup|(cases b<;>exact Rf.unsup)
  |_=>
   exact Xjm
 |float k a=>
  cases y with
  |float q b=>
   simp only[B1];cases f
   all_goals refine Rf.iteStuck λ_=>?_
   all_goals first|exact Rf.floatArith _ _ _ _|exact Rf.floatCmp _ _ _ _
  |pointer b=>
   simp only[B1,A8]at h⊢;exact Ybg
  |_=>
   exact Xjm
 |complex k a c=>
  cases y with
  |complex q b d=>
   simp only[B0];cases f
   all_goals refine Rf.iteStuck λ_=>?_
   all_goals exact Rf.complexOp _ _ _ _ _ _
  |pointer b=>
   simp only[B0,A8]at h⊢;exact Ybg
  |_=>
   exact Xjm
 |string a=>
  cases y with
  |string b=>
   have e:Go.binOp f t (.string a) (.string b)=xi f a b:=by cases f<;>rfl
   rw[Bc,Bc,e];exact Rf.stringOp _ _ _
  |pointer b=>
   simp only[Bc,A8]at h⊢;exact Ybg
  |_=>
   exact Xjm
 |pointer a=>
  cases y with
  |int k b=>
   simp only[Bz,A8]at h⊢;cases f
   case eql=>exact Rf.boolOf (h (.inl iP))
   case neq=>exact Rf.notOf (h (.inr iP))
   case add=>
    refine Rf.bind (Rf.underlying t) λd=>?_;simp only[id];have C:=Rf.movedPointer (P:=P) (n:=n) (H:=H) t (.pointer a) (.int k b);have J:=Rf.movedNumber (P:=P) (n:=n) (H:=H) t (.pointer a) (.int k b);rw[Bz,A8]at C J;split
    ·exact C
    ·exact J
   case sub=>have:=Rf.movedNumber (P:=P) (n:=n) (H:=H) t (.pointer a) (.int k (-b));rw[Bz,A8]at this;exact this
   case rem=>
    exact Th6
   case and=>
    exact Th6
   all_goals (cases a<;>exact Rf.unsup)
  |pointer b=>
   simp only[A8]at h⊢;cases f
   case eql=>exact Rf.boolOf (h (.inl iP))
   case neq=>exact Rf.notOf (h (.inr iP))
   all_goals (cases a<;>cases b)
   all_goals first|exact Rf.unsup|exact Rf.bind (Rf.behindNumber _) λ_=>Rf.bind (Rf.behindNumber _) λ_=>Rf.addrSub p _ _ _|exact Rf.bind (Rf.behindNumber _) λ_=>Rf.bind (Rf.behindNumber _) λ_=>Rf.addrCmp p _ _ _
  |_=>
   simp only[Ct,Bz,B1,B0,Bc,B3,Bt,Bo,Db,Dh,Cn,Cf,Cc,Cd,A8]at h⊢;cases f
   case eql=>exact Rf.boolOf (h (.inl iP))
   case neq=>exact Rf.notOf (h (.inr iP))
   all_goals (cases a<;>exact Rf.unsup)
 |_=>
  cases y with
  |pointer b=>
   simp only[Ct,Bz,B1,B0,Bc,B3,Bt,Bo,Db,Dh,Cn,Cf,Cc,Cd,A8]at h⊢;exact Ybg
  |_=>
   exact Xjm
def Rf.eqGuard(c t x y a b):Dc H P n id (Go.eqGuard c t x y a b) (Go.eqGuard c t x y (A1 n a) (A1 n b)):=by
 have M:(c=.eql∨c=.neq)∨Go.eqGuard c t x y a b=Pure.pure ()/\Go.eqGuard c t x y (A1 n a) (A1 n b)=Pure.pure ():=by cases c<;>first|exact .inl (.inl iP)|exact .inl (.inr iP)|exact .inr ⟨iP,iP⟩
 rcases M with M|⟨S,L⟩
 ·have F:∀a b,Go.eqGuard c t x y a b=Go.eqGuard .eql t x y a b:=by rcases M with rfl|rfl<;>exact λ_ _=>rfl
  rw[F,F];unfold Go.eqGuard;simp only[Bool.not_true,aR,↓reduceIte];cases a with
  |nilIface=>
   cases b with
   |nilIface=>
    have h:=Rf.eqGuardIn (P:=P) (n:=n) (H:=H) ly t .nilIface .nilIface;simp only[Bt]at h⊢;exact Tqo
   |_=>simp only[Ct,Bz,B1,B0,Bc,B3,Bt,Bo,Db,Dh,Cn,Cf,Cc,Cd,A8];exact Rf.pure iP
  |agg X=>
   cases b with
   |agg j=>
    have h:=Rf.eqGuardIn (P:=P) (n:=n) (H:=H) ly t (.agg X) (.agg j);simp only[Cc]at h⊢;refine Rf.bind Rf.program λp=>Rf.bind Rf.program λq=>?_;simp only[id];exact Tqo
   |_=>simp only[Ct,Bz,B1,B0,Bc,B3,Bt,Bo,Db,Dh,Cn,Cf,Cc,Cd,A8];exact Rf.pure iP
  |_=>simp only[Ct,Bz,B1,B0,Bc,B3,Bt,Bo,Db,Dh,Cn,Cf,Cc,Cd,A8];exact Rf.pure iP
 ·rw[S,L];exact Rf.pure iP
end
section
variable {n:Ren}
def Rf.listForInMap{f:a->d}{k:a->b->Sem (ForInStep b)}{q:d->b->Sem (ForInStep b)}(h:∀x y,Dc H P n id (k x y) (q (f x) y)):∀(l:List a)c,Dc H P n id (forIn l c k) (forIn (l.map f) c q)
 |[],c=>by exact Rf.pure iP
 |x::l,c=>by
  rw[bA,fQ,fQ];refine Rf.bind (h x c) λs=>?_;cases s with
  |done c=>exact Rf.pure iP
  |yield c=>exact Rf.listForInMap h l c
def Rf.arrayForInMap{f:a->d}{k:a->b->Sem (ForInStep b)}{q:d->b->Sem (ForInStep b)}(h:∀x y,Dc H P n id (k x y) (q (f x) y))(l:Array a)(c):Dc H P n id (forIn l c k) (forIn (l.map f) c q):=by
 rw[←eZ,←eZ,bT];exact Rf.listForInMap h _ _
def Rf.congr{f:b->c}{s W t S}(h:Dc H P n f W S)(d:∀v,s.runT P v #[]=W.runT P v #[])(R:∀v,t.runT P v #[]=S.runT P v #[]):Dc H P n f s t:=by
 have a:∀v,s.run P v=W.run P v:=λv=>by simp_all
 have L:∀v,s.events P v #[]=W.events P v #[]:=λv=>aK Prod.snd (d v);have g:∀v,t.run P v=S.run P v:=λv=>by simp_all
 have i:∀v,t.events P v #[]=S.events P v #[]:=λv=>aK Prod.snd (R v);refine⟨λv e U Q p Y=>by rw[L];exact h.1 v e U Q p (a v▸Y),λv x U Q p Y=>h.2 v x U Q p (a v▸Y),λJ u v w d Q p O e U Y j=>?_⟩;rw[L]at O⊢;rw[a]at Y;rw[g,i];exact h.3 J u v w d Q p O e U Y j
def AE(e)(c:iB)(k:E->Sem a)(v):(Go.newRow e c >>= λb=>Go.markStringish b >>= λ_=>k b).runT P v #[]=(Go.newObj (.cells c e (c.size,c.size+1)) >>= λr=>k (iJ r)).runT P v #[]:=by
 show(k (iJ v.1.size) |> λs=>(Go.markStringish (iJ v.1.size) >>= λ_=>s).runT P _ #[])=(k (iJ v.1.size)).runT P _ #[];have d:zj { v with heap:=v.1.push (.cells c e) } v.1.size=ni (e,c.size):=by simp[zj]
 show((match zj _ v.1.size with|some (_,m)=>Go.freeze _ 1|_=>Pure.pure ()) >>= λ_=>k (iJ v.1.size)).runT P _ #[]=_;rw[d]
 show(k (iJ v.1.size)).runT P _ #[]=_
 congr 1
 unfold World.freeze;simp only[Nat.one_ne_zero,bQ]
 congr 1
 grind
def Rf.bytesToString(x):Dc H P n (A1 n) (jh x) (jh (A1 n x)):=by
 cases x with
 |slice a l c=>
  rw[Bo];cases a with
  |none=>exact Rf.pure Ad
  |some a=>
   refine Rf.bind (Rf.loadCells _ _) λcs=>Rf.bind (Rf.arrayForInMap (λx y=>?_) _ _) λs=>Rf.pure Ad;exact Ufm
 |_=>exact Rf.stuck
def Ac8(k)(f:UInt8->Int)(l:Array UInt8)(m):(l.map (λb=>Value.int k (f b))++Array.replicate m (Value.int k 0)).map (A1 n)=l.map (λb=>Value.int k (f b))++Array.replicate m (Value.int k 0):=by
 simp[dD,dW]
def Rf.stringToBytes(e)(s:hU):Dc H P n (A1 n) (lu e s) (lu e s):=by
 refine Rf.bind (Rf.choose _) λI=>?_;simp only[id];generalize M:s.data.map _++Array.replicate _ _=c;have Y:c.map (A1 n)=c:=by rw[←M,Ac8]
 refine Rf.congr ?_ (AE e c _) (AE e c _);have h:=Rf.newObj (P:=P) (n:=n) (H:=H) (o:=.cells c e (c.size,c.size+1)) trivial;rw[show Dt n _=.cells c e (c.size,c.size+1) by simp only[Dt,Y]]at h;exact Rf.bind h λr=>Rf.pure (by simp[Ei])
def Rf.floatToInt(k b d):Dc H P n (A1 n) (zz k b d) (zz k b d):=by
 unfold zz;split
 ·split
  ·exact Rf.pure Ad
  ·exact Rf.bind (Rf.choose _) λ_=>Rf.pure Ad
 ·exact Rf.bind (Rf.choose _) λ_=>Rf.pure Ad
def Ab3(P:I)(s d:Z):Bool:=
 match P.underlying s,P.underlying d with
 |some (.int _),ni (.int _)=>tu
 |some .string,ni (.slice e)=>match P.underlying e with|some (.int .u8)=>tu|_=>o9
 |some (.slice e),ni .string=>match P.underlying e with|some (.int .u8)=>tu|_=>o9
 |some .string,ni .string=>tu
 |_,_=>o9
def Rf.convert(s d x)(h:Ab3 P s d=tu):Dc H P n (A1 n) (Go.convert s d x) (Go.convert s d (A1 n x)):=by
 unfold Go.convert;refine Rf.underlyingIn s λG j=>Rf.underlyingIn d λU g=>?_;unfold Ab3 at h;rw[j,g]at h;cases G with
 | int k=>
  cases U with
  | int q=>
   cases x with
   | int _ m=>rw[Bz];exact Rf.pure Ad
   | float s b=>rw[B1];exact Rf.floatToInt _ _ _
   | pointer a=>cases a <;> exact Rf.unsup
   | _=>exact Rf.unsup
  | _=>cases h
 | string=>
  cases U with
  | string=>
   cases x with
   | string b=>rw[Bc];exact Rf.pure Ad
   | int k i=>rw[Bz];exact Rf.pure Ad
   | _=>exact Rf.unsup
  | slice e=>
   cases x with
   | string b=>
    rw[Bc];dsimp only at h⊢;refine Rf.underlyingIn e λf N=>?_;rw[N]at h;cases f with
    | int k=>cases k <;> first|exact Rf.stringToBytes _ _|cases h
    | _=>cases h
   | slice a l c=>cases a <;> exact Rf.unsup
   | _=>exact Rf.unsup
  | _=>cases h
 | slice e=>
  cases U with
  | string=>
   have D:∀y:w8,Dc H P n (A1 n) (Go.underlying e >>= λu=>match u with
     | .int .u8=>jh y
     | .int .i32=>xj y
     | _=>Go.stuck "Convert: a slice of what to string?") (Go.underlying e >>= λu=>match u with
     | .int .u8=>jh (A1 n y)
     | .int .i32=>xj (A1 n y)
     | _=>Go.stuck "Convert: a slice of what to string?"):=λy=>by
    refine Rf.underlyingIn e λf N=>?_;dsimp only at h;rw[N]at h;cases f with
    | int k=>cases k <;> first|exact Rf.bytesToString _|cases h
    | _=>cases h
   have D:=D x;cases x with
   | int k i=>rw[Bz];exact Rf.pure Ad
   | string b=>rw[Bc];exact Rf.pure Ad
   | _=>simp only[Ct,Bz,B1,B0,Bc,B3,Bt,Bo,Db,Dh,Cn,Cf,Cc,Cd,A8]at D⊢;exact D
  | _=>cases h
 | _=>cases h
end
section
variable {n:Ren}
def ES(a b:iE):(a.map (Ei n)==b.map (Ei n))=(a==b):=by
 cases a<;>cases b<;>simp[Ae7]
def MZ(a b:iF):(a.map (sh n)==b.map (sh n))=(a==b):=by
 cases a<;>cases b<;>simp[TF]
def JJ:∀d(a b:T),Instr.sameBits d (A1 n a) (A1 n b)=Instr.sameBits d a b:=by
 intro d
 induction d with
 |zero=>
  intro a b;cases a<;>cases b<;>simp only[Ct,Bz,B1,B0,Bc,B3,Bt,Bo,Db,Dh,Cn,Cf,Cc,Cd,A8,Instr.sameBits,ES,MZ]
 |succ d O=>
  intro a b;cases a<;>cases b<;>simp only[Ct,Bz,B1,B0,Bc,B3,Bt,Bo,Db,Dh,Cn,Cf,Cc,Cd,A8,Instr.sameBits,ES,MZ,O,gT,bT]
  congr 1
  rw[List.zip_map,List.all_map]
  congr 1
  funext x
  exact O _ _
def Rf.keyThatStays(a b):Dc H P n (A1 n) (Instr.keyThatStays a b) (Instr.keyThatStays (A1 n a) (A1 n b)):=by
 unfold Instr.keyThatStays;rw[JJ];split
 ·exact Rf.pure iP
 ·refine Rf.bind (Rf.choose _) λc=>?_;simp only[id];split<;>exact Rf.pure iP
def OM(d k b):Instr.sameNow d (A1 n k) (A1 n b)=Instr.sameNow d k b:=by
 cases d<;>cases k<;>first|rfl|(cases b<;>simp only[Ct,Bz,B1,B0,Bc,B3,Bt,Bo,Db,Dh,Cn,Cf,Cc,Cd,A8]<;>rfl)
abbrev Aep(n:Ren):Option (Nat×T)->Option (Nat×T):=Option.map λx=>(x.1,A1 n x.2)
def Xs(d k):∀X(i:Nat),Instr.findNow d (A1 n k) (X.map (Iz n)) i=(Instr.findNow d k X i).map (Aep n)
 |[],_=>rfl
 |e::X,i=>by
  rw[bA];unfold Instr.findNow;rw[show(Iz n e).key=A1 n e.key from iP,OM];cases Instr.sameNow d k e.key with
  |none=>rfl
  |some b=>
   cases b with
   |true=>rfl
   |false=>exact Xs d k X _
def Rf.findAsking(p:n.Fix P.globals.size){m}(h:Zo P m t=tu)(k):∀X(i:Nat),Dc H P n (Aep n) (Instr.findAsking t k X i) (Instr.findAsking t (A1 n k) (X.map (Iz n)) i)
 |[],_=>Rf.pure iP
 |e::X,i=>by
  refine Rf.bind (Rf.equal p h k e.key) λb=>?_;simp only[id];split
  ·exact Rf.pure iP
  ·exact Rf.findAsking p h k X _
def Rf.findKey(p:n.Fix P.globals.size){m}(h:Zo P m t=tu)(k X):Dc H P n (Aep n) (Instr.findKey t k X) (Instr.findKey t (A1 n k) (X.map (Iz n))):=by
 refine Rf.bind (Rf.underlying t) λd=>?_;simp only[id];rw[Xs];cases Instr.findNow d k X 0 with
 |none=>exact Rf.findAsking p h k X 0
 |some r=>exact Rf.pure iP
def CQ(t):Ko P (Go.typeStr t):=Ie (Z0 t) λi=>by
 dsimp only;split
 ·exact(Cz (h:=.unsupported (.noEntry _)) iP trivial).halts
 ·exact If _
def Rf.checkKey(e):∀m(t:mi)v,Dc H P n id (Instr.checkKey e m t v) (Instr.checkKey e m t (A1 n v))
 |0,t,v=>Rf.unsup
 |m+1,t,v=>by
  refine Rf.bind (Rf.underlying t) λd=>?_;cases d with
  |interface Z=>
   cases v with
   |iface S x=>
    rw[Cf];refine Rf.bind (Rf.typeInfo S) λi=>?_;simp only[id];by_cases M:(!i.9)=tu
    ·apply Rf.never;simp only[M,bP];by_cases N:e=tu
     ·simp only[N,bP];exact D8 (Jx _)
     ·simp only[N];exact Gs (CQ _) λ_=>D8 (Jx _)
    ·simp only[M];exact Rf.checkKey e m S x
   |nilIface=>rw[Bt];exact Rf.pure iP
   |_=>exact Rf.stuck
  |array l R=>
   cases v with
   |agg cs=>
    rw[Cc];refine Rf.bind (Rf.rangeForIn (λi y=>?_) _ _) λ_=>Rf.pure iP;exact Rf.bind (Rf.sizeOf _) λs=>Rf.bind (Rf.part _ _ _) λc=>Rf.bind (Rf.checkKey e m _ _) λ_=>Rf.pure iP
   |_=>exact Rf.stuck
  |struct L=>
   cases v with
   |agg cs=>
    rw[Cc];refine Rf.bind (Rf.arrayForInMem L _ λf I y=>?_) λ_=>Rf.pure iP;refine Rf.ite (Rf.bind (Rf.part _ _ _) λc=>Rf.bind (Rf.checkKey e m _ _) λ_=>Rf.pure iP) (Rf.pure iP)
   |_=>exact Rf.stuck
  |_=>exact Rf.pure iP
def IN(P:I)(t:Z):Bool:=match P.underlying t with|some (.map k _)=>Zo P 6 k|_=>tu
def FK:Dc H P n (A1 n) (do pure (Value.map (ni (←Go.newObj (.map #[] 0))))) (do pure (Value.map (ni (←Go.newObj (.map #[] 0))))):=by
 have h:=Rf.newObj (P:=P) (n:=n) (H:=H) (o:=.map #[] 0) trivial;rw[show Dt n _=.map #[] 0 by simp[Dt]]at h;exact Rf.bind h λa=>Rf.pure Ad
def SQ(t r):Dc H P n (A1 n) (Instr.makeMap t r) (Instr.makeMap t (r.map (A1 n))):=by
 cases r with
 |none=>exact FK
 |some x=>
  refine Rf.bind (Rf.underlying t) λd=>?_;cases d with
  |map k e=>exact Rf.bind (Rf.asInt x) λ_=>FK
  |_=>exact Rf.stuckBind
def Ng(X:Array nd):(X.map (Iz n)).isEmpty=X.isEmpty:=by simp[Array.isEmpty]
def X0(p:n.Fix P.globals.size)(N:Ia P){M B}(i b)(h:Zo P 6 M=tu)(X:Array nd):Dc H P n (A1 n)
  (Instr.checkKey X.isEmpty 10000 M i >>= λ_=>Instr.findKey M i X.toList >>= λr=>match r with
   |some (_,v)=>(Pure.pure (v,tu):Sem (T×Bool)) >>= λx=>Pure.pure (if b=tu then Value.tuple #[x.1,.bool x.2] else x.1)
   |none=>Go.zeroValue B >>= λz=>(Pure.pure (z,o9):Sem (T×Bool)) >>= λx=>Pure.pure (if b=tu then Value.tuple #[x.1,.bool x.2] else x.1))
  (Instr.checkKey (X.map (Iz n)).isEmpty 10000 M (A1 n i) >>= λ_=>Instr.findKey M (A1 n i) (X.map (Iz n)).toList >>= λr=>match r with
   |some (_,v)=>(Pure.pure (v,tu):Sem (T×Bool)) >>= λx=>Pure.pure (if b=tu then Value.tuple #[x.1,.bool x.2] else x.1)
   |none=>Go.zeroValue B >>= λz=>(Pure.pure (z,o9):Sem (T×Bool)) >>= λx=>Pure.pure (if b=tu then Value.tuple #[x.1,.bool x.2] else x.1)):=by
 rw[Ng,bT];refine Rf.bind (Rf.checkKey _ _ _ _) λ_=>Rf.bind (Rf.findKey p h i X.toList) λr=>?_;cases r with
 |none=>
  refine Rf.bind (Rf.zeroValue N B) λz=>Rf.bind (f:=λx:T×Bool=>(A1 n x.1,x.2)) (Rf.pure iP) λx=>Rf.pure ?_;cases b<;>simp
 |some r=>
  refine Rf.bind (f:=λx:T×Bool=>(A1 n x.1,x.2)) (Rf.pure iP) λx=>Rf.pure ?_;cases b<;>simp
def ZQ(p:n.Fix P.globals.size)(N:Ia P)(t x i b)(h:IN P t=tu):Dc H P n (A1 n) (Instr.lookup t x i b) (Instr.lookup t (A1 n x) (A1 n i) b):=by
 unfold Instr.lookup;refine Rf.underlyingIn t λd y=>?_;unfold IN at h;rw[y]at h;cases d with
 |map M B=>
  cases x with
  |map r=>
   rw[Db];cases r with
   |none=>
    dsimp only[Option.map_none];exact Rf.bind (f:=Array.map (Iz n)) (Rf.pure Ad) λa=>X0 p N i b h a
   |some r=>
    dsimp only[aI];refine Rf.getObjThen r (λo _=>?_) Agp;cases o with
    |map a C=>
     simp only[Dt];exact Rf.bind (f:=Array.map (Iz n)) (Rf.pure iP) λa=>X0 p N i b h a
    |_=>exact Rf.stuckBind
  |_=>exact Rf.stuckBind
 |_=>exact Rf.stuck
def RJ(X:Array nd)(i k v):(X.modify i λe=>{ e with key:=k,val:=v }).map (Iz n)=(X.map (Iz n)).modify i λe=>{ e with key:=A1 n k,val:=A1 n v }:=by
 apply bV;intro j;rw[aN,bS,bS,aN];split
 ·cases X[j]?<;>rfl
 ·rfl
def Vm(p:n.Fix P.globals.size)(t x k v)(h:IN P t=tu):Dc H P n id (Instr.mapUpdate t x k v) (Instr.mapUpdate t (A1 n x) (A1 n k) (A1 n v)):=by
 refine Rf.underlyingIn t λd y=>?_;unfold IN at h;rw[y]at h;cases d with
 |map M B=>
  cases x with
  |map r=>
   rw[Db];cases r with
   |none=>exact Rf.rt
   |some r=>
    refine Rf.getObjThen r (λo _=>?_) Agp;cases o with
    |map a C=>
     refine Rf.bind (Rf.checkKey _ _ _ _) λ_=>?_;rw[bT];refine Rf.bind (Rf.findKey p h k a.toList) λb=>?_;cases b with
     |none=>
      have:=Rf.setObj (P:=P) (n:=n) (H:=λi=>H i∨i=r) (o:=.map (a.push { key:=k,val:=v,born:=C }) (C+1)) trivial Am3 iP r (.inr iP);simp only[Dt,Array.map_push]at this;exact this
     |some b=>
      have E:=Rf.keyThatStays (P:=P) (n:=n) (H:=λi=>H i∨i=r) (((a[b.1]?).map (·.key)).getD k) k;have S:A1 n (((a[b.1]?).map (·.key)).getD k)=(((a.map (Iz n))[b.1]?).map (·.key)).getD (A1 n k):=by
       rw[aN];cases a[b.1]?<;>rfl
      rw[S]at E;refine Rf.bind E λq=>?_;have:=Rf.setObj (P:=P) (n:=n) (H:=λi=>H i∨i=r) (o:=.map (a.modify b.1 λe=>{ e with key:=q,val:=v }) C) trivial Am3 rfl r (.inr rfl);simp only[Dt,RJ]at this;exact this
    |_=>exact Rf.stuck
  |_=>exact Rf.stuck
 |_=>exact Rf.stuck
def N8{f:a->d}:∀(l:List a)i,(l.eraseIdx i).map f=(l.map f).eraseIdx i
 |[],_=>Ad
 |x::l,0=>Ad
 |x::l,i+1=>by simp[N8 l i]
def ZP(p:n.Fix P.globals.size)(L c)(X:iB)(h:∀x,L[0]?=ni x->IN P x=tu):Dc H P n (A1 n) (wi L c X) (wi L c (X.map (A1 n))):=by
 unfold wi;rw[aN,aN];cases R:L[0]? with
 |none=>exact Rf.stuck
 |some t=>
  cases X[0]? with
  |none=>exact Rf.stuck
  |some x=>
   cases X[1]? with
   |none=>exact Rf.stuck
   |some k=>
    have h:=h t R;dsimp only[aI];refine Rf.underlyingIn t λd y=>?_;unfold IN at h;rw[y]at h;cases d with
    |map M B=>
     cases x with
     |map r=>
      rw[Db];cases r with
      |none=>exact Rf.bind (Rf.checkKey _ _ _ _) λ_=>Rf.pure Ad
      |some r=>
       dsimp only[aI];refine Rf.getObjThen r (λo _=>?_) Agp;cases o with
       |map a C=>
        simp only[Dt];rw[Ng];refine Rf.bind (Rf.checkKey _ _ _ _) λ_=>?_;rw[bT];refine Rf.bind (Rf.findKey p h k a.toList) λb=>?_;cases b with
        |none=>
         have:=Rf.setObj (P:=P) (n:=n) (H:=λi=>H i∨i=r) (o:=.map a C) trivial Am3 iP r (.inr iP);simp only[Dt]at this;exact Rf.bind this λ_=>Rf.pure Ad
        |some b=>
         have:=Rf.setObj (P:=P) (n:=n) (H:=λi=>H i∨i=r) (o:=.map (a.eraseIdxIfInBounds b.1) C) trivial Am3 iP r (.inr iP);have e:(a.eraseIdxIfInBounds b.1).map (Iz n)=(a.map (Iz n)).eraseIdxIfInBounds b.1:=by
          apply Array.toList_inj.1;simp[N8]
         simp only[Dt,e]at this;exact Rf.bind this λ_=>Rf.pure Ad
       |_=>exact Rf.stuckBind
     |_=>exact Rf.stuckBind
    |_=>exact Rf.stuck
def Aev(t x):Dc H P n (A1 n) (Instr.range t x) (Instr.range t (A1 n x)):=by
 have z:∀{H} l,Va l->Dc H P n (A1 n) (do pure (Value.pointer (ni ⟨←Go.newObj l,0,su⟩))) (do pure (Value.pointer (ni ⟨←Go.newObj (Dt n l),0,su⟩))):=λ{H} l h=>Rf.bind (Rf.newObj h) λc=>Rf.pure (by simp[Ei]);refine Rf.bind (Rf.underlying t) λd=>?_;cases d with
 |string=>
  cases x with
  |string s=>rw[Bc];exact z _ trivial
  |_=>exact Rf.stuckBind
 |map k e=>
  cases x with
  |map b=>
   rw[Db];cases b with
   |none=>exact z _ trivial
   |some r=>
    refine Rf.getObjThen r (λo _=>?_) Agp;cases o with
    |map a C=>exact z _ trivial
    |_=>exact Rf.stuckBind
  |_=>exact Rf.stuckBind
 |_=>exact Rf.stuckBind
theorem Aeu(x:Value):Dc H P n (A1 n) (Instr.entry x) (Instr.entry (A1 n x)):=by
 unfold Instr.entry
 cases x with
 | pointer b=>
  rw [A8]
  cases b with
  | none=>exact Rf.stuck
  | some b=>
   obtain⟨c,o,s⟩:=b
   cases o with
   | succ o=>exact Rf.stuck
   | zero=>
    dsimp only [Option.map_some,Ei]
    refine Rf.getObjThen c (fun o _=>?_) Agp
    cases o with
    | mapIter r g f h=>
     simp only [Dt]
     cases r with
     | none=>exact Rf.stuck
     | some r=>
      dsimp only [Option.map_some]
      cases f.back? with
      | none=>exact Rf.stuck
      | some d=>
       dsimp only
       refine Rf.getObjThen r (fun o _=>?_) Agp
       cases o with
       | map a C=>
        simp only [Dt]
        refine Rf.ite Rf.unsup ?_
        have e:(a.map (Iz n)).find? (fun x=>x.born == d)=(a.find? (fun x=>x.born == d)).map (Iz n):=by
         rw [Array.find?_map]
         rfl
        rw [e]
        cases a.find? (fun x=>x.born == d) with
        | none=>exact Rf.unsup
        | some e=>exact Rf.pure (by simp [Iz])
       | _=>exact Rf.stuck
    | _=>exact Rf.stuck
 | _=>exact Rf.stuck
def Th(p:nd->Bool)(Q:∀e,p (Iz n e)=p e)(X:Array nd):(X.map (Iz n)).filter p=(X.filter p).map (Iz n):=by
 apply Array.toList_inj.1;simp only[eD,bT,List.filter_map,dW,Q]
def Xk(since:Nat)(seen:Array Nat)(es:Array nd):Array (Option nd):=
 (if(Array.filter (λx=>decide (x.born<since)) (Array.filter (λe=>!seen.contains e.born) es)).isEmpty=tu then #[su] else #[]) ++
  Array.map ni (Array.filter (λx=>decide (x.born<since)) (Array.filter (λe=>!seen.contains e.born) es)++Array.filter (λx=>decide (x.born ≥ since)) (Array.filter (λe=>!seen.contains e.born) es))
def WV(a b X):Xk a b (X.map (Iz n))=(Xk a b X).map (Option.map (Iz n)):=by
 unfold Xk;rw[Th (λe=>!b.contains e.born) (λ_=>rfl),Th (λx=>decide (x.born<a)) (λ_=>rfl),Th (λx=>decide (x.born ≥ a)) (λ_=>rfl),Ng];generalize Array.filter (λx=>decide (x.born<a)) (Array.filter (λe=>!b.contains e.born) X)=A;generalize Array.filter (λx=>decide (x.born ≥ a)) (Array.filter (λe=>!b.contains e.born) X)=B;split<;>simp[dD,dW]
def SS(Y:H r)(m a C b X):Dc H P n (A1 n)
  (Go.choose (.mapNext (Xk a b X).size) >>= λc=>match (Xk a b X)[c]? with
   | some (ni e)=>Go.setObj r (.mapIter (ni m) a (b.push e.born) C) >>= λ_=>Pure.pure (.tuple #[.bool tu,e.key,e.val])
   | some su=>Pure.pure (.tuple #[.bool o9])
   | none=>Go.stuck "Next: no such candidate")
  (Go.choose (.mapNext (Xk a b (X.map (Iz n))).size) >>= λc=>match (Xk a b (X.map (Iz n)))[c]? with
   | some (ni e)=>Go.setObj (sh n r) (.mapIter (ni (sh n m)) a (b.push e.born) C) >>= λ_=>Pure.pure (.tuple #[.bool tu,e.key,e.val])
   | some su=>Pure.pure (.tuple #[.bool o9])
   | none=>Go.stuck "Next: no such candidate"):=by
 rw[WV,gT];refine Rf.bind (Rf.choose _) λc=>?_;simp only[id];rw[aN];cases(Xk a b X)[c]? with
 | none=>exact Rf.stuck
 | some e=>
  cases e with
  | none=>exact Rf.pure Ad
  | some e=>exact Rf.bind (Rf.setObj (o:=.mapIter (ni m) a (b.push e.born) C) trivial Am3 iP r Y) λ_=>Rf.pure (by simp[Iz])
def Aib(x d t):Dc H P n (A1 n) (Instr.next x d t) (Instr.next (A1 n x) d t):=by
 unfold Instr.next;cases x with
 |pointer b=>
  rw[A8];cases b with
  |none=>exact Rf.stuck
  |some b=>
   obtain⟨c,o,s⟩:=b;cases o with
   |succ o=>exact Rf.stuck
   |zero=>
    dsimp only[aI,Ei];refine Rf.getObjThen c (λo _=>?_) Agp;cases o with
    |stringIter s i=>
     simp only[Dt];cases d with
     |false=>exact Rf.stuck
     |true=>
      refine Rf.ite ?_ (Rf.pure Ad);exact Rf.bind (Rf.setObj (o:=.stringIter s _) trivial Am3 iP c (.inr iP)) λ_=>Rf.pure Vw
    |mapIter r f g e=>
     simp only[Dt];cases d with
     |true=>cases r<;>exact Rf.stuck
     |false=>
      cases r with
      |none=>exact Rf.pure Ad
      |some r=>
       dsimp only[aI];refine Rf.getObjThen r (λo _=>?_) Agp;cases o with
       |map a C=>
        simp only[Dt];have R:(a.map (Iz n)).all (λx=>decide (x.born ≥ e))=a.all (λx=>decide (x.born ≥ e)):=by
         rw[←Array.all_toList,←Array.all_toList,bT,List.all_map]
         rfl
        rw[Ng,R];exact Rf.ite Rf.unsupBind (SS (.inl (.inr iP)) r f C g a)
       |_=>exact Rf.stuck
    |_=>exact Rf.stuck
 |_=>exact Rf.stuck
end
section
variable {n:Ren}
def Aia(x y):Dc H P n (A1 n) (qk x y) (qk (A1 n x) (A1 n y)):=by
 cases x with
 |int k a=>
  exact S2t
 |float k a=>
  cases y with
  |float q b=>
   rw[B1,B1];unfold qk;exact Gan
  |pointer b=>cases b<;>first|exact Rf.unsup|exact Rf.stuck
  |_=>exact Rf.stuck
 |string a=>
  exact Pyg
 |pointer a=>cases a<;>cases y<;>first|exact Rf.unsup|exact Rf.stuck|(rename_i b;cases b<;>first|exact Rf.unsup|exact Rf.stuck)
 |_=>cases y<;>first|exact Rf.stuck|exact Rf.unsup|(rename_i b;cases b<;>first|exact Rf.unsup|exact Rf.stuck)
def Ah9(x y):Dc H P n (A1 n) (og x y) (og (A1 n x) (A1 n y)):=by
 cases x with
 |int k a=>
  exact S2t
 |float k a=>
  cases y with
  |float q b=>
   rw[B1,B1];unfold og;exact Gan
  |pointer b=>cases b<;>first|exact Rf.unsup|exact Rf.stuck
  |_=>exact Rf.stuck
 |string a=>
  exact Pyg
 |pointer a=>cases a<;>cases y<;>first|exact Rf.unsup|exact Rf.stuck|(rename_i b;cases b<;>first|exact Rf.unsup|exact Rf.stuck)
 |_=>cases y<;>first|exact Rf.stuck|exact Rf.unsup|(rename_i b;cases b<;>first|exact Rf.unsup|exact Rf.stuck)
def BC{f g:T->T->Sem T}(h:∀x y,Dc H P n (A1 n) (f x y) (g (A1 n x) (A1 n y))):∀(l:iC)x,Dc H P n (A1 n) (l.foldlM f x) ((l.map (A1 n)).foldlM g (A1 n x))
 |[],x=>Rf.pure iP
 |y::l,x=>by
  exact Rf.bind (h x y) λz=>BC h l z
def Al2(L t)(X:iB):Dc H P n (A1 n) (hh L t X) (hh L t (X.map (A1 n))):=by
 unfold hh;rw[bT];cases X.toList with
 |nil=>exact Rf.stuck
 |cons x l=>exact BC Aia l x
def Al1(L t)(X:iB):Dc H P n (A1 n) (s8 L t X) (s8 L t (X.map (A1 n))):=by
 unfold s8;rw[bT];cases X.toList with
 |nil=>exact Rf.stuck
 |cons x l=>exact BC Ah9 l x
def Adc(P:I)(ts:Array Z):Bool:=match ts[0]? with
 |some t=>match P.underlying t with|some (.chan _ _)=>o9|_=>tu
 |none=>tu
def Al0(L b)(X:iB)(K:Adc P L=tu):Dc H P n (A1 n) (pw L b X) (pw L b (X.map (A1 n))):=by
 unfold pw;rw[aN];unfold Adc at K;cases R:L[0]? with
 |none=>exact Rf.stuck
 |some t=>
  cases X[0]? with
  |none=>exact Rf.stuck
  |some x=>
   dsimp only[aI];refine Rf.underlyingIn t λd y=>?_;rw[R]at K;dsimp only at K;rw[y]at K;cases d with
   |string=>cases x<;>first|exact Rf.stuck|(rw[Bc];exact Rf.pure Vw)
   |array l e=>exact Rf.pure Vw
   |pointer e=>
    exact R8k
   |slice e=>cases x<;>first|exact Rf.stuck|(rw[Bo];exact Rf.pure Vw)
   |map k e=>
    cases x with
    |map r=>
     rw[Db];cases r with
     |none=>exact Rf.pure Vw
     |some r=>
      refine Rf.getObjThen r (λo _=>?_) Agp;cases o with
      |map a C=>simp only[Dt];exact Rf.pure Vw
      |_=>exact Rf.stuck
    |_=>exact Rf.stuck
   |chan Y e=>cases K
   |_=>exact Rf.stuck
def Alz(L a)(X:iB)(K:Adc P L=tu):Dc H P n (A1 n) (vy L a X) (vy L a (X.map (A1 n))):=by
 unfold vy;rw[aN];unfold Adc at K;cases R:L[0]? with
 |none=>exact Rf.stuck
 |some t=>
  cases X[0]? with
  |none=>exact Rf.stuck
  |some x=>
   dsimp only[aI];refine Rf.underlyingIn t λd y=>?_;rw[R]at K;dsimp only at K;rw[y]at K;cases d with
   |array l e=>exact Rf.pure Vw
   |pointer e=>
    exact R8k
   |slice e=>cases x<;>first|exact Rf.stuck|(rw[Bo];exact Rf.pure Vw)
   |chan Y e=>cases K
   |_=>exact Rf.stuck
end
def Zp:List String:=["internal/bytealg.CountString", "internal/bytealg.IndexByteString", "internal/bytealg.IndexString", "internal/bytealg.abigen_runtime_cmpstring"]
def DZ(P:vg)(f:FuncId):Bool:=
 match P.funcs[f]? with
 | some fn=>fn.body.isNone && fn.origin == "" && Zp.contains fn.name
 | none=>o9
section
variable {n:Ren}
def Vl:∀k(a:E)(D:hU),Dc H P n id (qy a k D) (qy (Ei n a) k D)
 |0,_,_=>Rf.pure iP
 |k+1,a,D=>by
  refine Rf.bind (Rf.load a _) λv=>?_;cases v with
  |int t i=>rw[Bz];cases t<;>first|exact Rf.stuck|(exact Vl k _ _)
  |_=>exact Rf.stuck
def Kf(v):Dc H P n id (pe v) (pe (A1 n v)):=by
 cases v with
 |string s=>rw[Bc];exact Rf.pure iP
 |slice a l c=>
  rw[Bo];cases a with
  |none=>exact Rf.pure iP
  |some a=>exact Vl _ _ _
 |_=>exact Rf.stuck
def FJ(x):Dc H P n id (kt x) (kt (A1 n x)):=by
 exact Ufm
def ZR(V:iB):Dc H P n (A1 n) (q8 V) (q8 (V.map (A1 n))):=by
 rcases V with⟨l⟩;rw[cK];rcases l with _|⟨x,_|⟨y,_|⟨z,l⟩⟩⟩
 ·exact Rf.stuck
 ·exact Rf.stuck
 ·exact Rf.bind (Kf x) λ_=>Rf.bind (FJ y) λ_=>Rf.pure Vw
 ·exact Rf.stuck
def DG(V:iB):Dc H P n (A1 n) (mm V) (mm (V.map (A1 n))):=by
 rcases V with⟨l⟩;rw[cK];rcases l with _|⟨x,_|⟨y,_|⟨z,l⟩⟩⟩
 ·exact Rf.stuck
 ·exact Rf.stuck
 ·refine Rf.bind (Kf x) λa=>Rf.bind (FJ y) λc=>?_;simp only[id];split<;>exact Rf.pure Vw
 ·exact Rf.stuck
def DD(p:n.Fix P.globals.size)(s):Dc H P n (Ei n) (Go.globalAddr s) (Go.globalAddr s):=by
 apply Rf.programIn;cases h:P.globals.findIdx? _ with
 |none=>exact Rf.stuck
 |some g=>
  have G:g<P.globals.size:=by
   have:=Array.findIdx?_eq_some_iff_getElem.1 h;exact this.1
  exact Rf.pure (by simp[Ei,show sh n g=g from p g G])
def ZS(p:n.Fix P.globals.size)(V:iB):Dc H P n (A1 n) (jq V) (jq (V.map (A1 n))):=by
 rcases V with⟨l⟩;rw[cK];rcases l with _|⟨x,_|⟨y,_|⟨z,l⟩⟩⟩
 ·exact Rf.stuck
 ·exact Rf.stuck
 ·refine Rf.bind (Kf x) λa=>Rf.bind (Kf y) λb=>?_;refine Rf.bind (Rf.bind (DD p _) λa=>Rf.bind (Rf.load _ _) λv=>Rf.asInt v) λm=>?_;simp only[id];refine Rf.ite Rf.unsupBind (Rf.ite Rf.unsupBind ?_);split<;>exact Rf.pure Vw
 ·exact Rf.stuck
def OH(V:iB):Dc H P n (A1 n) (x9 V) (x9 (V.map (A1 n))):=by
 rcases V with⟨l⟩;rw[cK];rcases l with _|⟨x,_|⟨y,_|⟨z,l⟩⟩⟩
 ·exact Rf.stuck
 ·exact Rf.stuck
 ·exact Rf.bind (Kf x) λ_=>Rf.bind (Kf y) λ_=>Rf.pure Vw
 ·exact Rf.stuck
def UO(p:n.Fix P.globals.size){fn}(O:fn.origin = "")(z:fn.name∈Zp):Extern.findNext fn=su∧(fn.name == "runtime.NumGoroutine")=o9∧∃e,Extern.find fn=ni e∧∀V,Dc H P n (A1 n) (e V) (e (V.map (A1 n))):=by
 simp only[Zp,bG,dL,or_false]at z;unfold Extern.findNext Extern.find;rcases z with h|h|h|h <;> rw[O,h]
 ·exact⟨Ab,Ab,q8,Ab,ZR⟩
 ·exact⟨Ab,Ab,mm,Ab,DG⟩
 ·exact⟨Ab,Ab,jq,Ab,ZS p⟩
 ·exact⟨Ab,Ab,x9,Ab,OH⟩
def Ao3(n:Ren):Except (Option Bool) (Z×Option T)->Except (Option Bool) (Z×Option T)
 |.error e=>.error e
 |.ok (t,x)=>.ok (t,x.map (A1 n))
def Jy:∀l(t:Z)x,Dc H P n (Ao3 n) (Go.followBlind l t x) (Go.followBlind l t (x.map (A1 n)))
 |[],t,x=>Rf.pure iP
 |s::l,t,x=>by
  refine Rf.bind (Rf.underlying _) λd=>?_;simp only[id];cases d with
  |struct L=>
   dsimp only;cases L[s.index]? with
   |none=>exact Rf.stuck
   |some f=>
    cases s.deref with
    |true=>
     cases x with
     |none=>exact Rf.pure iP
     |some x=>
      cases x with
      |pointer a=>
       rw[aI,A8];cases a with
       |none=>exact Rf.pure iP
       |some a=>exact Jy l f.type su
      |_=>exact Rf.stuck
    |false=>
     cases x with
     |none=>exact Jy l f.type su
     |some x=>
      cases x with
      |agg cs=>
       rw[aI,Cc];exact Rf.bind (Rf.part _ _ _) λy=>Jy l f.type _
      |_=>exact Rf.stuck
  |_=>exact Rf.stuck
def X1:∀k(t:Z)v(s:String),Dc H P n id (Go.nilAhead k t v s) (Go.nilAhead k t (A1 n v) s)
 |0,_,_,_=>Rf.pure iP
 |k+1,t,v,s=>by
  refine Rf.bind (Rf.typeInfo t) λi=>?_;simp only[id];cases i.methods.find? _ with
  |none=>exact Rf.stuck
  |some m=>
   refine Rf.bind (Jy m.path.toList t (ni v)) λr=>?_;cases r with
   |error e=>exact Rf.pure iP
   |ok y=>
    have ⟨j,x⟩:=y;simp only[Ao3];cases m.func with
    |none=>
     cases x with
     |none=>exact Rf.pure iP
     |some x=>
      cases x with
      |iface S U=>rw[aI,Cf];exact X1 k S U s
      |nilIface=>rw[aI,Bt];exact Rf.pure iP
      |_=>exact Rf.stuck
    |some I=>
     have ⟨f,b⟩:=I;cases b with
     |true=>exact Rf.pure iP
     |false=>
      refine Rf.bind (Rf.underlying j) λd=>?_;cases d with
      |pointer e=>
       cases x with
       |none=>exact Rf.pure iP
       |some x=>
        cases x with
        |pointer a=>rw[aI,A8];cases a<;>exact Rf.pure iP
        |_=>simp only[aI,Ct,Bz,B1,B0,Bc,B3,Bt,Bo,Db,Dh,Cn,Cf,Cc,Cd];exact Rf.pure iP
      |_=>exact Rf.pure iP
end
def Rg:T->Bool
 |.pointer su|.slice su _ _|.map su|.chan su|.bool _|.int _ _|.float _ _|.complex _ _ _|.string _|.nilFunc|.nilIface=>tu
 |_=>o9
def Yn:T->Bool
 |.agg cs=>cs.all Rg
 |.tuple cs=>cs.all Rg
 |v=>Rg v
def GS:T->Bool
 |.agg cs=>cs.all Yn
 |.tuple cs=>cs.all Yn
 |v=>Rg v
def P6{n v}(h:Rg v=tu):A1 n v=v:=by
 cases v with
 |pointer a=>cases a with|none=>simp|some a=>cases h
 |slice a l c=>cases a with|none=>simp|some a=>cases h
 |map a=>cases a with|none=>simp|some a=>cases h
 |chan a=>cases a with|none=>simp|some a=>cases h
 |_=>first|(simp;done)|cases h
def Xm{n}(h:cs.all Rg=tu):cs.map (A1 n)=cs:=by
 apply bV;intro i;rw[aN];cases V:cs[i]? with
 |none=>rfl
 |some v=>
  rw[cX]at h;exact aK ni (P6 (h v (cI V)))
def LI{n v}(h:Yn v=tu):A1 n v=v:=by
 cases v with
 |agg cs=>rw[Cc,Xm h]
 |tuple cs=>rw[Cd,Xm h]
 |_=>exact P6 h
def Xn{n}(h:cs.all Yn=tu):cs.map (A1 n)=cs:=by
 apply bV;intro i;rw[aN];cases V:cs[i]? with
 |none=>rfl
 |some v=>
  rw[cX]at h;exact aK ni (LI (h v (cI V)))
def Xo{n v}(h:GS v=tu):A1 n v=v:=by
 cases v with
 |agg cs=>rw[Cc,Xn h]
 |tuple cs=>rw[Cd,Xn h]
 |_=>exact P6 h
def Eg(G:Nat):O->Bool
 |.tmp _|.func _=>tu
 |.const v=>GS v
 |.global g=>decide (g<G)
def Eu(n):A1 n undef=undef:=by simp[undef]
def Zy{n}(a:iB)(t):(a.map (A1 n)).getD t undef=A1 n (a.getD t undef):=by
 rw[cG,cG,aN];cases a[t]? with
 |none=>exact(Eu n).symm
 |some v=>rfl
def Qd{n G}(p:n.Fix G)(X V:Frame)(R:V.tmps=X.tmps.map (A1 n))(x)(h:Eg G x=tu):V.eval x=A1 n (X.eval x):=by
 cases x with
 |tmp t=>unfold Frame.eval;rw[R];exact Zy _ _
 |const v=>exact(Xo h).symm
 |global g=>
  show Value.pointer _=A1 n (iI g);simp[Ei,show sh n g=g from p g (by simpa[Eg] using h)]
 |func f=>
  show Value.func _ #[] #[]=A1 n (.func (.func f) #[] #[]);simp[Mp]
def Ku(n:Ren):Next->Next
 |.value v=>.value (A1 n v)
 |.enter f as=>.enter f (as.map (A1 n))
 |x=>x
def Uy:O->Bool
 |.const (.pointer su)=>tu
 |_=>o9
def eqR(P:I)(t:Z)(x y:O):Bool:=
 Zo P 6 t||((match P.underlying t with|some (.pointer _)=>tu|_=>o9)&&(Uy x||Uy y))
def Anj(P:I)(ts:Array Z):Bool:=match ts[1]? with
 |some xt=>match P.underlying xt with|some (.int _)=>o9|_=>tu
 |none=>tu
def Sj(P:I)(S:FuncId->Bool)(c:Call):Bool:=
 c.args.all (Eg P.globals.size)&&match c.callee with
 |.builtin .append=>Anj P c.argTypes
 |.builtin .len|.builtin .cap=>Adc P c.argTypes
 |.builtin .copy|.builtin .min|.builtin .max=>tu
 |.builtin .delete=>match c.argTypes[0]? with|some t=>IN P t|none=>tu
 |.value (.func f)=>S f||DZ P f
 |_=>o9
def fnR:Fn->Bool
 |.func _=>tu
 |_=>o9
def opR(P:I)(S:FuncId->Bool)(o:Oper):Bool:=
 let k:=Eg P.globals.size
 match o.op with
 |.move x|.assign x|.box _ x|.load _ x|.nilCheck x|.unOp _ _ x|.fieldAddr _ x _|.field _ x _|.extract x _|.range _ x|.next x _|.entry x=>k x
 |.pick c a b=>k c&&k a&&k b
 |.alloc _=>tu
 |.build _ ps|.buildSlice _ _ ps=>ps.all λx=>k x.2
 |.store _ a x|.makeSlice _ a x|.indexAddr _ a x|.index _ a x=>k a&&k x
 |.makeFunc f a b=>fnR f&&a.all k&&b.all k
 |.slice _ x lo hi mx=>k x&&lo.all k&&hi.all k&&mx.all k
 |.binOp op t x y _=>k x&&k y&&(match op with|.eql|.neq=>eqR P t x y|_=>tu)
 |.convert s d x=>k x&&Ab3 P s d
 |.call c=>Sj P S c
 |.makeMap _ r=>r.all k
 |.lookup t x i _=>k x&&k i&&IN P t
 |.mapUpdate t a b c|.insert t a b c=>k a&&k b&&k c&&IN P t
 |_=>o9
section
variable {n:Ren}
def Ek{s t}(h:Rf P n (A1 n) s t):Rf P n (Ku n) (s >>= λx=>Pure.pure (pt x)) (t >>= λx=>Pure.pure (pt x)):=Rf.bind h λ_=>Rf.pure iP
def JH{s t:Sem Unit}(h:Rf P n id s t):Rf P n (Ku n) (s >>= λ_=>Pure.pure Next.skip) (t >>= λ_=>Pure.pure Next.skip):=Rf.bind h λ_=>Rf.pure iP
def FA{a:O->T}(B:∀x,Eg P.globals.size x=tu->F x=A1 n (a x))(b:Array (Nat×O))(h:(b.all λx=>Eg P.globals.size x.2)=tu):(b.map λx=>(x.1,F x.2))=(b.map λx=>(x.1,a x.2)).map λx=>(x.1,A1 n x.2):=by
 rw[Array.map_map]
 grind
def Jm{a:O->T}(B:∀x,Eg P.globals.size x=tu->F x=A1 n (a x))(V:Array O)(h:V.all (Eg P.globals.size)=tu):V.map F=(V.map a).map (A1 n):=by
 grind
def Yx{a:O->T}(B:∀x,Eg P.globals.size x=tu->F x=A1 n (a x))(b:Option O)(h:b.all (Eg P.globals.size)=tu):b.map F=(b.map a).map (A1 n):=by
 cases b with
 |none=>rfl
 |some x=>grind
end
section
variable {n:Ren}
def OF(f)(a b:iB)(h:fnR f=tu):Rf P n (A1 n) (Instr.makeFunc f a b) (Instr.makeFunc f (a.map (A1 n)) (b.map (A1 n))):=by
 cases f with
 |func g=>exact Rf.pure (by simp[Mp])
 |_=>cases h
def Xz(p:n.Fix P.globals.size){S:FuncId→Bool}(H:∀f,S f=tu→∃fn c,P.funcs[f]? = ni fn∧(fn.name == "runtime.NumGoroutine")=o9∧fn.body=ni c)(f)(V:iB)(h:(S f || DZ P f)=tu):Rf P n (Ku n) (Go.callFunc f V) (Go.callFunc f (V.map (A1 n))):=by
 unfold Go.callFunc;apply Rf.programIn;rw[dR]at h;rcases h with h|h
 ·obtain⟨fn,c,C,J,T⟩:=H f h;have D:fn.body.isNone=o9:=by rw[T];rfl
  rw[C];dsimp only;rw[J,D];exact Rf.pure iP
 ·unfold DZ at h;cases G:P.funcs[f]? with
  | none=>rw[G]at h;cases h
  | some fn=>
   rw[G]at h;simp only[aS]at h;obtain⟨⟨D,O⟩,z⟩:=h;obtain⟨C,J,e,T,q⟩:=UO (P:=P) (n:=n) p (fn:=fn) (by simpa using O) (by simpa using z);dsimp only;rw[J,D,C,T];exact Rf.bind (Rf.mark trivial) λ_=>Rf.bind (q V) λ_=>Rf.pure iP
def OG(x):Rf P n (Ku n)
  (match x with
   | .pointer su|.nilIface|.nilFunc=>Go.runtimePanic .nilDeref
   | .func (.method d) e c=>
    match (e[0]? : Option w8) with
    | some .nilIface=>Go.runtimePanic .nilDeref
    | some (.iface t w)=>do
     if(←nilAhead ((←program).types.size+Made.depth) t w d) != ni o9 then
      unsupported (.noEntry "op/nilCheck.the method's receiver behind this interface value is a nil pointer, or cannot be seen to be none, and the arguments act or may panic (ledger 612)")
     pure (.value (.func (.method d) e c))
    | _=>pure (.value (.func (.method d) e c))
   | x=>pure (.value x))
  (match A1 n x with
   | .pointer su|.nilIface|.nilFunc=>Go.runtimePanic .nilDeref
   | .func (.method d) e c=>
    match (e[0]? : Option w8) with
    | some .nilIface=>Go.runtimePanic .nilDeref
    | some (.iface t w)=>do
     if(←nilAhead ((←program).types.size+Made.depth) t w d) != ni o9 then
      unsupported (.noEntry "op/nilCheck.the method's receiver behind this interface value is a nil pointer, or cannot be seen to be none, and the arguments act or may panic (ledger 612)")
     pure (.value (.func (.method d) e c))
    | _=>pure (.value (.func (.method d) e c))
   | x=>pure (.value x)):=by
 cases x with
 | pointer a=>rw[A8];cases a with
  | none=>exact Rf.rt
  | some a=>exact Rf.pure (by simp[Ku])
 | nilIface=>exact Rf.rt
 | nilFunc=>exact Rf.rt
 | func f a b=>
  rw[Cn];cases f with
  | method d=>
   simp only[Mp];rw[aN];have Q:Rf P n (Ku n) (pure (pt (.func (.method d) a b))) (pure (pt (.func (.method d) (a.map (A1 n)) (b.map (A1 n))))):=Rf.pure (by simp[Ku,Mp]);cases a[0]? with
   | none=>exact Q
   | some v=>
    cases v with
    | nilIface=>exact Rf.rt
    | iface t w=>
     rw[aI,Cf];refine Rf.bind Rf.program λp=>Rf.bind (X1 _ t w d) λr=>?_;simp only[id];exact Rf.ite Rf.unsupBind Q
    | _=>simp only[aI,Ct,Bz,B1,B0,Bc,B3,Bo,Db,Dh,Cn,Cc,Cd,A8];exact Q
  | _=>simp only[Mp];exact Rf.pure (by simp[Ku,Mp])
 | _=>simp only[Ct,Bz,B1,B0,Bc,B3,Bt,Bo,Db,Dh,Cn,Cf,Cc,Cd,A8];exact Rf.pure (by simp[Ku])
def OD(p:n.Fix P.globals.size){a:O->T}(M:∀v,a (.const v)=v){x y}(h:eqR P t x y=tu):Rf P n id (gy t (a x) (a y)) (gy t (A1 n (a x)) (A1 n (a y))):=by
 unfold eqR at h;rw[dR]at h;rcases h with h|h
 ·exact Rf.equal p h _ _
 ·rw[aS,dR]at h;have ⟨C,J⟩:=h;have b:∀{z},Uy z=tu->a z=.pointer su:=λ{z} N=>by
   unfold Uy at N
   grind
  cases r:P.underlying t with
  |none=>grind
  |some u=>
   rw[r]at C;cases u<;>first|contradiction|skip
   exact Rf.equalNil r (J.imp b b)
def Ao4(p:n.Fix P.globals.size)(N:Ia P)(H:∀f,S f=tu→∃u c,P.funcs[f]? = ni u∧(u.name == "runtime.NumGoroutine")=o9∧u.body=ni c){a F}(I:∀g,a (.func g)=.func (.func g) #[] #[])(M:∀v,a (.const v)=v)(B:∀x,Eg P.globals.size x=tu→F x=A1 n (a x)){o}(h:opR P S o=tu):Rf P n (Ku n) (execOp a o) (execOp F o):=by
 unfold opR at h;unfold execOp;generalize o.op=q at h;cases q <;> first|contradiction|dsimp only at h⊢
 case move x=>exact Rf.pure (by rw[B x h];rfl)
 case assign x=>exact Rf.pure (by rw[B x h];rfl)
 case pick c b d=>
  simp only[aS]at h;rw[B c h.1.1,B b h.1.2,B d h.2];refine Rf.bind (Rf.asBool _) λd=>Rf.pure ?_;simp only[id];split <;> rfl
 case alloc t=>
  have:=Ek (Rf.alloc (P:=P) (n:=n) N t tu (.tuple #[]))
  rwa[show A1 n (.tuple #[])=.tuple #[] by simp]at this
 case box t x=>rw[B x h];exact Ek (Rf.box _ _)
 case build t i=>rw[FA B i h];exact Ek (Rf.build N _ _)
 case buildSlice t l i=>rw[FA B i h];exact Ek (Rf.buildSlice N _ _ _)
 case load t x=>rw[B x h];exact Ek (Rf.loadAt _ _)
 case store t b x=>
  simp only[aS]at h;rw[B b h.1,B x h.2];exact JH (Rf.storeAt _ _ _)
 case nilCheck x=>rw[B x h];exact OG _
 case binOp q t x y A=>
  simp only[aS]at h;rw[B x h.1.1,B y h.1.2];refine Ek (Rf.bind (Rf.eqGuard _ _ _ _ _ _) λ_=>Rf.binOp p _ _ _ _ λD=>?_);rcases D with rfl|rfl
  ·exact OD p M h.2
  ·exact OD p M h.2
 case unOp q t x=>rw[B x h];exact Ek (Rf.unary _ _)
 case convert s e x=>
  simp only[aS]at h;rw[B x h.1];exact Ek (Rf.convert _ _ _ h.2)
 case makeFunc f b d=>
  simp only[aS]at h;rw[Jm B b h.1.2,Jm B d h.2];exact Ek (OF _ _ _ h.1.1)
 case makeMap t r=>rw[Yx B r h];exact Ek (SQ _ _)
 case makeSlice t b x=>
  simp only[aS]at h;rw[B b h.1,B x h.2];exact Ek (Rf.makeSlice N _ _ _)
 case slice t x z V C=>
  simp only[aS]at h;rw[B x h.1.1.1,Yx B z h.1.1.2,Yx B V h.1.2,Yx B C h.2];exact Ek (Rf.sliceAt _ _ _ _ _)
 case fieldAddr s x f=>rw[B x h];exact Ek (Rf.fieldAt _ _ _)
 case field s x f=>rw[B x h];exact Ek (Rf.field _ _ _)
 case indexAddr t b x=>
  simp only[aS]at h;rw[B b h.1,B x h.2];exact Ek (Rf.indexAt _ _ _)
 case index t b x=>
  simp only[aS]at h;rw[B b h.1,B x h.2];exact Ek (Rf.index _ _ _)
 case lookup t x j d=>
  simp only[aS]at h;rw[B x h.1.1,B j h.1.2];exact Ek (ZQ p N _ _ _ _ h.2)
 case mapUpdate t b d c=>
  exact Tfi
 case insert t b d c=>
  exact Tfi
 case range t x=>rw[B x h];exact Ek (Aev _ _)
 case next x d=>rw[B x h];exact Ek (Aib _ _ _)
 case entry x=>rw[B x h];exact Ek (Aeu _)
 case extract x j=>rw[B x h];exact Ek (Rf.extract _ _)
 case call c=>
  unfold Sj at h;rw[aS]at h;obtain⟨w,h⟩:=h;unfold resolve;rw[Jm B c.args w];cases M:c.callee with
  | builtin d=>
   rw[M]at h
   show Rf P n (Ku n) (invoke (.builtin d c.argTypes o.type _) _) (invoke (.builtin d c.argTypes o.type _) _);unfold invoke builtin;cases d <;> first
    | contradiction
    | exact Ek (Rf.append N _ _ _ λk Z m E=>by simp[Anj,Z,E]at h)
    | exact Ek (Rf.copy _ _ _)
    | exact Ek (Al0 _ _ _ h)
    | exact Ek (Alz _ _ _ h)
    | exact Ek (Al2 _ _ _)
    | exact Ek (Al1 _ _ _)
    | exact Ek (ZP p _ _ _ λG L=>by dsimp only at h;rwa[L]at h)
  | value f=>
   rw[M]at h;cases f with
   | func g=>
    dsimp only at h;have W:F (.func g)=.func (.func g) #[] #[]:=by rw[B (.func g) iP,I g];simp[Mp]
    have J:=Xz (P:=P) (n:=n) p H g (c.args.map a) h
    show Rf P n (Ku n) (uj (a (.func g)) (c.args.map a) >>= λe=>invoke e.target e.args) (uj (F (.func g)) ((c.args.map a).map (A1 n)) >>= λe=>invoke e.target e.args);rw[I g,W]
    show Rf P n (Ku n) (callFunc g (#[]++c.args.map a++#[])) (callFunc g (#[]++(c.args.map a).map (A1 n)++#[]));exact Ewc
   | _=>cases h
  | invoke r K=>rw[M]at h;cases h
