import Derived.Test.YtcbilgmfdgpomaaGreatDoorBase
import Derived.Test.YtcbilgmfdgpomaaGreatDoorProg
import Derived.WalkKit
import Derived.WalkSpells
import Derived.WalkLawsBesides
import Derived.Handy
import Derived.Outline
import Derived.Laws.BitsAllLaws
import Derived.Deep.Light
import Derived.Lib.Strings
import Derived.Deep.AppendLies
import Derived.Deep.RegionWith
open Array renaming size → iL,size → R
set_option maxHeartbeats 400000
set_option linter.all false
open Option renaming some → lj,none → jh
open Go renaming World → gk,Value → uo,Calls → xq,heap_alloc_new → iw,Value → O,World → T,Calls → E
open ByteArray renaming empty → mj
open Go.Proofs.Tryz renaming prog → y7,ntmps158 → wi,ntmps218 → vf,ntmps221 → yx,func158 → xe,func218 → yu,func221 → gj,prog → m
open Go.RowKit renaming Below → vu
open Bool renaming false → sd
open UInt8 renaming ofNat → qe,toNat_ofNat' → s8
open Go.RowKit.Below renaming heap_alloc → ir,refl → nu
open Int renaming add_mul_ediv_right → ia
open List renaming take_succ_cons → gx,length → iK,length → y
open Prod renaming fst → l9
open Go.Value renaming int → uu,string → pc,slice → qh,bool → gd
open Go.IntKind renaming i64 → gh,u8 → qg
open Go.Ending renaming returned → k8
open Go.Proofs.Tryz
variable {B W w:T}{I b g j k off:Nat}{N S:gV}{a:Type}{cs:gY}{h:gS}{p q:Prop}{v:O}{z:gX}
def Zk5(k:q)(h:Hd q->p:=by
 intro kz;have L:pre = []:=by
  have:=Q [];simp only[V.l,aW,takeE,bZ,aT,cS]at this;exact this.2
 revert L;exact kz.1):p:=h ⟨k⟩
def Kyl(k:q)(h:Hd q->p:=by
 intro kz;have t:Orch.uns (l.take 4)<4294967296:=by
  have:=Orch.uns_lt (l.take 4);rw[dZ]at this
  rwa[show min 4 l.length=4 by omega]at this
 revert t;exact kz.1):p:=h ⟨k⟩
def Qsy(k:q)(h:Hd q->p:=by
 intro kz;have m:=M 1 _ iI;have o:=M 2 _ iI;have N:=M 3 _ iI;have q:=M 4 _ iI;have r:=M 5 _ iI;revert m o N q r;exact kz.1):p:=h ⟨k⟩
def Ge5(k:q)(h:Hd q->p:=by
 intro kz;have g:Hid (H.ownsRow b 5 1 U (X++(Orch.be n a).take (a - m)).length (A4 (X++(Orch.be n a).take (a - m)))):=by
  show World.ownsRow _ _ _ _ _ _ _;rw[f.out,Iv];rw[HB.out]at J;simpa[A4] using J
 revert g;exact kz.1):p:=h ⟨k⟩
def Cvn(k:q)(h:Hd q->p:=by
 intro kz;have K:(X++(Orch.be n a).take (a - (m+1))).length<=100008:=by
  rw[aK,dZ,Orch.be_length];omega
 have f:Hid (X++(Orch.be n a).take (a - m)=(X++(Orch.be n a).take (a - (m+1)))++[UInt8.ofNat ((n / 256 ^ m) % 256).toNat]):=by
  show _=_;rw[UB n m a l,cB]
 revert K f;exact kz.1):p:=h ⟨k⟩
def Cl3(h:p:=by
 go_wp2;go_roundw
 case rel=>exact⟨m,Aa,by go_num,g,M⟩
 case measure=>first|(simp[intOf];done)|(simp[intOf];omega)):p:=h
def H00(h:p:=by
 rw[(gA Aa),show l.length - n=0 by omega];exact⟨b,off,0,iI,aC _,Y,λi V=>by simp at V⟩):p:=h
def Xay(h:p:=by
 go_wp2;go_ret;have e:(Orch.be n a).take (a - 0)=Orch.be n a:=by rw[bO Af8]
 have C:=O.out;rw[e]at C;exact⟨_,iI,C,x.out⟩):p:=h
def K0s(h:p:=by
 induction h with
 |nil a c=>exact .nil a c
 |row e g I F C H M Y O=>
  exact .row e g I F C (d g H) (λj u r=>by rw[World.cell?_of_block (w:=w) (a:=⟨g,j,none⟩) (W g H)];exact M j u r) (λp Q=>O p Q)):p:=h
def Cdz(h:p:=by
 generalize t.ps.length=f at *;generalize E:p.ps.length=b at *;clear E;go_enter Tryz.func206,Tryz.ntmps206;go_wp2;exact bodyPost_ret (v:=E6 p.l (.slice J b a)) (by simp[results,Tryz.results206,go_sem]) iI ⟨_,iI,D.out,Dj _ _ _⟩):p:=h
def H6m(h:p:=by
 clear b;go_enter Tryz.func205,Tryz.ntmps205;go_wp2
 all_goals go_ret
 all_goals refine⟨Gp ?_,Pq _ _ _ _⟩
 all_goals rw[←z.out]
 all_goals clear z
 all_goals go_light
 all_goals try simp only[toList_nil]at *
 all_goals (rw[eQ];simp only[aU,decide_eq_true_eq,beq_iff_eq,aR];first|omega|(rw[false_iff];omega))):p:=h
namespace Orch
structure Lt where
 sign:UInt8
 shape:Nat
 size:Nat
 least:Int
 most:Int
 text:Bool
 fin:UInt8
instance:Inhabited Lt:=⟨⟨0,0,0,0,0,sd,0⟩⟩
def letters:List Lt:=
 [⟨63,0,1,0,1,sd,0⟩,⟨52,0,4,-2147483648,2147483647,sd,0⟩,⟨56,0,8,-9223372036854775808,9223372036854775807,sd,0⟩,
  ⟨98,1,0,0,0,sd,0⟩,⟨116,1,0,0,0,true,0⟩,⟨91,2,0,0,0,sd,93⟩,⟨40,3,0,0,0,sd,41⟩]
def find(c:UInt8):Option Lt:=letters.find? λl=>l.sign==c
inductive Ty where
 |mk (l:Lt) (ps:List Ty)
instance:Inhabited Ty:=⟨.mk default []⟩
def Ty.l:Ty->Lt|.mk l _=>l
def Ty.ps:Ty->List Ty|.mk _ ps=>ps
inductive V where
 |mk (n:Int) (s:gU) (l:List V)
def V.n:V->Int|.mk n _ _=>n
def V.s:V->gU|.mk _ s _=>s
def V.l:V->List V|.mk _ _ l=>l
def part(t:Ty)(i:Nat):Ty:=if t.l.shape=2 then t.ps.getD 0 default else t.ps.getD i default
def parts(f:gT->Option (Ty×gT))(l:Lt):Nat->gT->List Ty->Option (List Ty×gT)
 |0,_,_=>jh
 |_+1,[],_=>jh
 |n+1,c::r,acc=>
  if c=l.fin then(if y acc=0∨l.shape=2/\1<y acc then jh else lj (acc,r))
  else match f (c::r) with
   |none=>jh
   |some (t,rest)=>parts f l n rest (acc++[t])
def ptype:Nat->gT->Option (Ty×gT)
 |0,_=>jh
 |_+1,[]=>jh
 |k+1,c::r=>match find c with
  |none=>jh
  |some l=>if l.fin=0 then lj (.mk l [],r) else match parts (ptype k) l (y r+1) r [] with
   |none=>jh
   |some (ps,rest)=>lj (.mk l ps,rest)
def parse(s:gT):Option Ty:=
 if 64<y s then jh else match ptype 9 s with
  |some (t,[])=>lj t
  |_=>jh
def be(n:Int):Nat->gT
 |0=>[]
 |k+1=>qe ((n / 256 ^ k) % 256).toNat::be n k
def uns(l:gT):Nat:=l.foldl (λx c=>x * 256+c.toNat) 0
def sgn(l:gT):Int:=if 256 ^ y l<=2 * uns l then(uns l:Int) - 256 ^ y l else uns l
def be_length(n):∀k,(be n k).length=k
 |0=>rfl
 |k+1=>by simp[be,be_length n k]
def Aah(l:gT):∀x,l.foldl (λx c=>x * 256+c.toNat) x=x * 256 ^ y l+uns l:=by
 induction l with
 |nil=>intro x;simp[uns]
 |cons c r O=>
  intro x;simp only[fK,aV,uns]
  grind
def BK(c)(r:gT):uns (c::r)=c.toNat * 256 ^ y r+uns r:=by
 show List.foldl _ _ _=_;rw[fK,Aah,Nat.zero_mul,aX]
def uns_lt(l):uns l<256 ^ y l:=by
 induction l with
 |nil=>simp[uns]
 |cons c r O=>
  rw[BK,aV,Nat.pow_succ];have h:=c.toNat_lt;have:c.toNat * 256 ^ y r<=255 * 256 ^ y r:=Nat.mul_le_mul_right _ Aa;omega
def Y5(n m):∀k,be (n+m * 256 ^ k) k=be n k
 |0=>rfl
 |k+1=>by
  have Q:(256:Int) ^ k≠0:=by
   have:(0:Int)<256 ^ k:=Int.pow_pos Aa;omega
  have e:n+m * 256 ^ (k+1)=n+(m * 256) * 256 ^ k:=Aj;unfold be;rw[e,Y5 n _ k,ia _ _ Q]
  congr 3
  omega
def PQ(l):be (uns l) (y l)=l:=by
 induction l with
 |nil=>rfl
 |cons c r O=>
  have Y:=uns_lt r;have M:=c.toNat_lt;have v:((uns r:Nat):Int)<256 ^ y r:=by
   grind
  have e:((uns (c::r):Nat):Int)=(uns r:Int)+(c.toNat:Int) * 256 ^ y r:=by
   rw[BK,Int.natCast_add,Int.natCast_mul,Int.natCast_pow,Int.add_comm]
   rfl
  rw[aV,be,e,Y5,O,ia _ _ Aa,Int.ediv_eq_zero_of_lt Aa v];have:((0+(c.toNat:Int)) % 256).toNat=c.toNat:=Aa;rw[this];simp
def Aj0(l):be (sgn l) (y l)=l:=by
 unfold sgn;split
 ·have h:=Y5 (uns l) (-1) (y l)
  rwa[PQ,show((uns l:Nat):Int) + -1 * 256 ^ y l=(uns l:Int) - 256 ^ y l by omega]at h
 ·exact PQ l
section
variable (f:gS)
def fits(t:Ty)(v:V):Bool:=
 match t.l.shape with
 |0=>decide (t.l.least<=v.n)&&decide (v.n<=t.l.5)&&decide (v.s.size=0)&&decide (y v.l=0)
 |1=>decide (v.n=0)&&(decide (v.s.size<=200)&&(!t.l.text||f v.s))&&decide (y v.l=0)
 |2=>decide (v.n=0)&&decide (v.s.size=0)&&decide (y v.l<=32)
 |_=>decide (v.n=0)&&decide (v.s.size=0)&&decide (y v.l=y t.ps)
def head(t:Ty)(v:V):gT:=
 match t.l.shape with
 |0=>be v.n t.l.size
 |1=>be v.s.size 4++v.s.data.toList
 |2=>be (y v.l) 4
 |_=>[]
def putE(f:gT->Ty->V->Option (gT))(t:Ty):List V->Nat->gT->Option (gT)
 |[],_,out=>lj out
 |e::r,i,out=>match f out (part t i) e with
  |none=>jh
  |some out'=>putE f t r (i+1) out'
def put:Nat->gT->Ty->V->Option (gT)
 |0,_,_,_=>jh
 |k+1,out,t,v=>
  if fits f t v then
   match putE (put k) t v.l 0 (out++head t v) with
   |none=>jh
   |some o=>if y o<=1000 then lj o else jh
  else jh
def count(b:gT)(most:Nat):Option (Nat×gT):=
 if y b<4 then jh else if most<uns (b.take 4) then jh else lj (uns (b.take 4),b.drop 4)
def takeE(f:Ty->gT->Option (V×gT))(t:Ty):Nat->Nat->gT->Option (List V×gT)
 |0,_,b=>lj ([],b)
 |m+1,i,b=>match f (part t i) b with
  |none=>jh
  |some (e,rest)=>match takeE f t m (i+1) rest with
   |none=>jh
   |some (es,r)=>lj (e::es,r)
def bytesV(l:gT):V:=.mk 0 ⟨l.toArray⟩ []
def listV(r:List V×gT):V×gT:=(.mk 0 mj r.1,r.2)
def take:Nat->Ty->gT->Option (V×gT)
 |0,_,_=>jh
 |k+1,t,b=>
  match t.l.shape with
  |0=>if y b<t.l.size then jh else
    if fits f t (.mk (sgn (b.take t.l.size)) mj []) then lj (.mk (sgn (b.take t.l.size)) mj [],b.drop t.l.size) else jh
  |1=>match count b 200 with
   |none=>jh
   |some (n,rest)=>if y rest<n then jh else
    if fits f t (bytesV (rest.take n)) then lj (bytesV (rest.take n),rest.drop n) else jh
  |2=>match count b 32 with
   |none=>jh
   |some (n,rest)=>(takeE (take k) t n 0 rest).map listV
  |_=>(takeE (take k) t (y t.ps) 0 b).map listV
def encode(s:gT)(v:V):Except Nat (gT):=
 match parse s with
 |none=>.error 1
 |some t=>match put f 9 [] t v with
  |none=>.error 2
  |some b=>.ok b
def decode(s:gT)(b:gT):Except Nat V:=
 match parse s with
 |none=>.error 1
 |some t=>if 1000<y b then .error 3 else match take f 9 t b with
  |some (v,[])=>.ok v
  |_=>.error 3
def O9(f:Ty->gT->Option (V×gT))(t):∀m i b X r,takeE f t m i b=lj (X,r)->y X=m:=by
 intro m
 induction m with
 |zero=>intro i b X r h;simp[takeE]at h;simp[←h.1]
 |succ m O=>
  intro i b X r h;unfold takeE at h
  grind
def AH(k t)(O:∀t b v c,take f k t b=lj (v,c)->∃pre,b=pre++c/\∀a,y a+y pre<=1000->put f k a t v=lj (a++pre)):∀m i b X c,takeE (take f k) t m i b=lj (X,c)->∃pre,b=pre++c/\∀a,y a+y pre<=1000->putE (put f k) t X i a=lj (a++pre):=by
 intro m
 induction m with
 |zero=>intro i b X c h;obtain⟨rfl,rfl⟩:=h;exact⟨[],iI,λa _=>by simp[putE]⟩
 |succ m d=>
  intro i b X c h;unfold takeE at h;split at h
  ·cases h
  ·rename_i j l I;split at h
   ·cases h
   ·rename_i G n N;simp only[aT,cS]at h;obtain⟨g,M,e⟩:=O _ _ _ _ I;obtain⟨r,D,o⟩:=d _ _ _ _ N;refine⟨g++r,Aj,λa K=>?_⟩;rw[aK]at K;rw[←h.1,putE,e a Aa]
    grind
def count_some{b m n a}(h:count b m=lj (n,a)):n<=m/\be n 4++a=b/\y a+4=y b:=by
 unfold count at h;split at h
 ·cases h
 ·split at h
  ·cases h
  ·obtain⟨rfl,rfl⟩:=h;have:=PQ (b.take 4)
   simp_all
def put_take:∀k t b v a,take f k t b=lj (v,a)->∃pre,b=pre++a/\∀e,iK e+iK pre<=1000->put f k e t v=lj (e++pre):=by
 intro k
 induction k with
 |zero=>intro t b v a h;simp[take]at h
 |succ k O=>
  intro t b v a h;unfold take at h;split at h
  ·rename_i P;split at h
   ·cases h
   ·split at h
    ·rename_i d R;simp only[aT,cS]at h;obtain⟨rfl,rfl⟩:=h;refine⟨b.take t.l.size,by rw[eH],λe K=>?_⟩;have j:(b.take t.l.size).length=t.l.size:=Ai;have D:=Aj0 (b.take t.l.size);rw[j]at D K;unfold put;rw[aL R];simp only[head,P,V.n,V.l,putE,D]
     grind
    ·cases h
  ·rename_i P;split at h
   ·cases h
   ·rename_i n M g;split at h
    ·cases h
    ·split at h
     ·rename_i d R;simp only[aT,cS]at h;obtain⟨rfl,rfl⟩:=h;obtain⟨z,D,Y⟩:=count_some g;have j:(M.take n).length=n:=Ai;refine⟨be n 4++M.take n,by rw[cB,eH,D],λe K=>?_⟩;have m:(bytesV (M.take n)).s.size=n:=by simp[bytesV,V.s,ByteArray.size,j]
      unfold put;rw[aL R];simp only[head,P];have y:(bytesV (M.take n)).s.data.toList=M.take n:=by simp[bytesV,V.s]
      have c:(bytesV (M.take n)).l = []:=iI;rw[m,y,c,putE];simp only;rw[aL (by rwa[aK])]
     ·cases h
  ·rename_i P;split at h
   ·cases h
   ·rename_i n M g;obtain⟨⟨X,r⟩,N,L⟩:=bB.1 h;simp only[listV,cS]at L;obtain⟨rfl,rfl⟩:=L;obtain⟨z,D,Y⟩:=count_some g;obtain⟨p,Q,Z⟩:=AH f k t O _ _ _ _ _ N;have d:=O9 _ _ _ _ _ _ _ N;refine⟨be n 4++p,by rw[cB,←Q,D],λe K=>?_⟩;have l:=be_length n 4;have R:fits f t (.mk 0 mj X)=true:=by
     simp[fits,P,V.n,V.s,V.l,d,z]
    unfold put;rw[aL R];simp only[head,P,V.l];rw[d,Z _ (by rw[aK]at K⊢;omega)];simp only;rw[aL (by simp only[aK]at K⊢;omega),cB]
  ·rename_i F C J;obtain⟨⟨X,r⟩,N,L⟩:=bB.1 h;simp only[listV,cS]at L;obtain⟨rfl,rfl⟩:=L;obtain⟨p,Q,Z⟩:=AH f k t O _ _ _ _ _ N;refine⟨p,Q,λe K=>?_⟩;have R:fits f t (.mk 0 mj X)=true:=by
    simp[fits,V.n,V.s,V.l,(O9 _ _ _ _ _ _ _ N)]
   have i:head t (.mk 0 mj X) = []:=by
    simp[head]
   unfold put;rw[aL R,i];simp only[V.l,bZ];rw[Z _ K];simp only;rw[aL (by rwa[aK])]
end
def Aeh(k):(0:Int)<256 ^ k:=Int.pow_pos Aa
def uns_be(n):∀k,((uns (be n k):Nat):Int)=n % 256 ^ k
 |0=>by simp[be,uns,Int.emod_one]
 |k+1=>by
  have Q:=Aeh k;have F:0<=(n / 256 ^ k) % 256:=Int.emod_nonneg _ Aa;have D:(qe ((n / 256 ^ k) % 256).toNat).toNat=((n / 256 ^ k) % 256).toNat:=by
   simp only[s8];omega
  unfold be;rw[BK,be_length,D,Int.natCast_add,(uns_be n k),Int.natCast_mul,Int.natCast_pow,Int.toNat_of_nonneg F]
  show(n / 256 ^ k) % 256 * 256 ^ k+n % 256 ^ k=_;have S:=Int.mul_ediv_add_emod n (256 ^ k);have U:=Int.emod_nonneg n (show(256:Int) ^ k≠0 by omega);generalize f:n / 256 ^ k=q at *;generalize e:n % 256 ^ k=r at *;generalize a:q / 256=z at *;generalize d:q % 256=G at *;have b:n=(G * 256 ^ k+r)+256 ^ (k+1) * z:=by
   grind
  have Y:G * 256 ^ k+r<256 ^ (k+1):=by
   have:G * 256 ^ k<=255 * 256 ^ k:=Int.mul_le_mul_of_nonneg_right Aa Aa;omega
  have v:0<=G * 256 ^ k+r:=Int.add_nonneg (Int.mul_nonneg F Aa) U;rw[b,Int.add_mul_emod_self_left,fZ v Y]
def Aig(n:Nat)(h:n<=200):uns (be n 4)=n:=by
 have:=uns_be n 4;omega
def Alw(n k)(F:-(256 ^ k)<=2 * n)(C:2 * n<256 ^ k):sgn (be n k)=n:=by
 have r:=uns_be n k;have a:((256 ^ k:Nat):Int)=256 ^ k:=Ac;unfold sgn;rw[be_length];rcases(by omega:n<0∨0<=n) with z|z
 ·have e:n % 256 ^ k=n+256 ^ k:=by
   rw[←Int.add_emod_right,fZ Aa Aa]
  omega
 ·rw[fZ z Aa]at r;omega
def Am9(l:Lt):Prop:=l.shape=0->-(256 ^ l.size:Int)<=2 * l.least/\2 * l.5<256 ^ l.size
def PD:Nat->Ty->Prop
 |0,_=>True
 |k+1,t=>Am9 t.l/\∀j,PD k (part t j)
def Pb:∀k,PD k default
 |0=>trivial
 |k+1=>⟨λ_=>Ae,λj=>by exact Pb k⟩
def FR{c l}(a:find c=lj l):Am9 l:=by
 have h:=List.mem_of_find?_eq_some a;simp only[letters,bH,eC,or_false]at h;rcases h with rfl|rfl|rfl|rfl|rfl|rfl|rfl<;>intro s<;>first|(constructor<;>decide)|cases s
def YR(Q:Ty->Prop){f:gT->Option (Ty×gT)}(I:∀s t r,f s=lj (t,r)->Q t)(l):∀n s D a r,(∀t∈D,Q t)->parts f l n s D=lj (a,r)->∀t∈a,Q t:=by
 intro n
 induction n with
 |zero=>intro s D a r _ h;cases s<;>simp[parts]at h
 |succ n O=>
  intro s D a r d h;cases s with
  |nil=>simp[parts]at h
  |cons c s=>
   unfold parts at h
   grind
def MX(Q:Ty->Prop)(y:Q default){l a}(h:∀t∈a,Q t)(j):Q (part (.mk l a) j):=by
 have g:∀i,Q (a.getD i default):=λi=>by
  grind
 unfold part;split
 ·exact g 0
 ·exact g j
def RX:∀k s t r,ptype k s=lj (t,r)->∀m,PD m t:=by
 intro k
 induction k with
 |zero=>intro s t r h;cases s<;>simp[ptype]at h
 |succ k O=>
  intro s t r h m;cases s with
  |nil=>simp[ptype]at h
  |cons c s=>
   unfold ptype at h;split at h
   ·cases h
   ·rename_i l K;cases m with
    |zero=>trivial
    |succ m=>
     split at h
     ·simp only[aT,cS]at h;rw[←h.1];exact⟨FR K,MX _ (Pb m) (λ_ h=>by cases h)⟩
     ·split at h
      ·cases h
      ·rename_i a b B;simp only[aT,cS]at h;rw[←h.1];exact⟨FR K,MX _ (Pb m) (YR _ (λs t r h=>O s t r h m) l _ _ _ _ _ (λ_ h=>by cases h) B)⟩
def parse_well{s t}(h:parse s=lj t)(m):PD m t:=by
 unfold parse at h;split at h
 ·cases h
 ·split at h
  ·rename_i S R;injection h with h;subst h;exact RX _ _ _ _ R m
  ·cases h
section
variable (f:gS)
def SY(k t)(W:∀j,PD k (part t j))(c:∀t v a o,PD k t->put f k a t v=lj o->∃pre,o=a++pre/\∀b,take f k t (pre++b)=lj (v,b)):∀X i a o,putE (put f k) t X i a=lj o->∃pre,o=a++pre/\∀b,takeE (take f k) t (y X) i (pre++b)=lj (X,b):=by
 intro X
 induction X with
 |nil=>intro i a o h;simp only[putE,aT]at h;subst h;exact⟨[],Ad,λb=>by simp[takeE]⟩
 |cons e X d=>
  intro i a o h;unfold putE at h;split at h
  ·cases h
  ·rename_i I O;obtain⟨m,rfl,C⟩:=c _ _ _ _ (W i) O;obtain⟨r,rfl,J⟩:=d _ _ _ h;refine⟨m++r,Ad,λb=>?_⟩;rw[aV,takeE,cB,C];simp only;rw[J]
def Ix{s:gU}(h:s.size=0):s=mj:=by
 simp_all
def KQ(n)(m:Nat)(h:n<=m)(L:m<=200)(a):count (be n 4++a) m=lj (n,a):=by
 have K:=be_length (n:Int) 4;unfold count;rw[aM (by simp[K]),cY Aa,bO Aa,Aig n Aa,aM Aa,
  eX Aa,eW Aa,bW]
def take_put:∀k t v e o,PD k t->put f k e t v=lj o->∃pre,o=e++pre/\∀c,take f k t (pre++c)=lj (v,c):=by
 intro k
 induction k with
 |zero=>intro t v e o _ h;simp[put]at h
 |succ k i=>
  intro t v e o W h;unfold put at h;split at h
  ·rename_i I;split at h
   ·cases h
   ·rename_i p O;split at h
    ·injection h with h;subst h;obtain⟨pre,rfl,Q⟩:=SY f k t W.2 i _ _ _ _ O;refine⟨head t v++pre,Ad,λc=>?_⟩;obtain⟨n,s,l⟩:=v;unfold take;unfold fits at I;split
     ·rename_i b;rw[b]at I;simp only[V.n,V.s,V.l,aU]at I;obtain⟨⟨⟨F,C⟩,J⟩,T⟩:=I;replace F:=of_decide_eq_true F;replace C:=of_decide_eq_true C;replace J:=of_decide_eq_true J;replace T:=of_decide_eq_true T;have d:=Ix J;have g:l = []:=bN.1 T;subst d g;refine Zk5 λL=>?_;subst L;have D:=be_length n t.l.size;have a:head t (.mk n mj [])=be n t.l.size:=by unfold head;rw[b];rfl
      obtain⟨r,q⟩:=W.1 b;rw[a,bZ,aM (by simp[D]),cY Aa,bO Aa,Alw n _ Aa Aa,
       eX Aa,eW Aa,bW,aL]
      unfold fits;rw[b];simp only[V.n,V.s,V.l,aU];exact⟨⟨⟨decide_eq_true F,decide_eq_true C⟩,decide_eq_true J⟩,decide_eq_true T⟩
     ·rename_i b;rw[b]at I;have Y:=I;simp only[V.n,V.s,V.l,aU]at I;obtain⟨⟨F,C,_⟩,T⟩:=I;replace F:=of_decide_eq_true F;replace C:=of_decide_eq_true C;replace T:=of_decide_eq_true T;have g:l = []:=bN.1 T;subst F g;refine Zk5 λL=>?_;subst L;have a:head t (.mk 0 s [])=be s.size 4++s.data.toList:=by unfold head;rw[b];rfl
      have K:y s.data.toList=s.size:=iI;rw[a,bZ,cB,KQ _ _ C (aC _)];simp only;rw[aM (by simp[K]),cY Aa,bO Aa,eX Aa,eW Aa,bW,aL]
      ·rfl
      ·unfold fits
       rwa[b]
     ·rename_i b;rw[b]at I;simp only[V.n,V.s,V.l,aU]at I;obtain⟨⟨F,J⟩,T⟩:=I;replace F:=of_decide_eq_true F;replace J:=of_decide_eq_true J;replace T:=of_decide_eq_true T;have d:=Ix J;subst F d;have a:head t (.mk 0 mj l)=be (y l) 4:=by unfold head;rw[b];rfl
      rw[a,cB,KQ _ _ T Aa];simp only;have:=Q c;simp only[V.l]at this;rw[this]
      rfl
     ·rename_i j H m;have a:head t (.mk n s l) = []:=by unfold head;split<;>simp_all
      split at I
      ·exact absurd HV j
      ·exact absurd HV H
      ·exact absurd HV m
      ·simp only[V.n,V.s,V.l,aU]at I;obtain⟨⟨F,J⟩,T⟩:=I;replace F:=of_decide_eq_true F;replace J:=of_decide_eq_true J;replace T:=of_decide_eq_true T;have d:=Ix J;subst F d;have:=Q c;simp only[V.l]at this;rw[a,bW,←T,this]
       rfl
    ·cases h
  ·cases h
def RZ:∀k t v a o,put f k a t v=lj o->y o<=1000:=by
 intro k t v a o h;cases k with
 |zero=>simp[put]at h
 |succ k=>
  unfold put at h
  grind
def round(s b v)(h:encode f s v=.ok b):decode f s b=.ok v/\(∀a c,b=a++[c]->decode f s a=.error 3)/\∀c,decode f s (b++[c])=.error 3:=by
 unfold encode at h;split at h
 ·cases h
 ·rename_i t R;split at h
  ·cases h
  ·rename_i J D;injection h with h;subst h;obtain⟨pre,N,Q⟩:=take_put f 9 t v [] J (parse_well R 9) D;have K:=RZ f _ _ _ _ _ D;rw[bW]at N;subst N;have F:=Q [];rw[bZ]at F;refine⟨?_,?_,?_⟩
   ·unfold decode
    grind
   ·intro a c e;unfold decode;rw[R];simp only;split
    ·rfl
    ·split
     ·rename_i U q;obtain⟨u,d,Z⟩:=put_take f 9 t a U [] q;rw[bZ]at d;subst d;obtain⟨r,A,G⟩:=take_put f 9 t U [] _ (parse_well R 9) (Z [] Aj)
      grind
     ·rfl
   ·intro c;unfold decode;rw[R];simp only;split
    ·rfl
    ·rw[Q [c]]
end
section
variable (f:gS)
variable {f}
end
structure Node where
 path:gU
 data:gU
 note:gU
 made:Int
 changed:Int
 version:Int
instance:Inhabited Node:=⟨⟨mj,mj,mj,0,0,0⟩⟩
end Orch
namespace Go.Proofs.YtcbilgmfdgpomaaGreatDoor
variable {c:Array Value}{t:TypeId}
open Go.RowKit
def Bytes(w:T)(b off:Nat)(l:gT):Prop:=∀i (h:i<y l),w.cell? ⟨b,off+i,jh⟩=lj (uu qg l[i].toNat)
def Ahn(X c:Nat)(t:X<72057594037927936)(M:c<256):bits .or .u64 ((X:Int) * 256) (c:Int)=((X * 256+c:Nat):Int):=by
 have e:((X:Int) * 256)=((X * 256:Nat):Int):=Aa;rw[e,u64_or_nat _ _ Aa Aa];have:=Nat.shiftLeft_add_eq_or_of_lt (i:=8) Aa X;rw[Nat.shiftLeft_eq]at this;rw[←this]
def Rg{k a b}(h:a=b):Ending.returned (uu k a)=k8 (uu k b):=by rw[h]
def Aih{k a b}(h:a=b):Value.int k a=uu k b:=by rw[h]
def Ii(w b off n I)(l:gT)(z:y l=n)(K:n<=8)(D:Bytes w b off l):xq m 156 #[qh (lj (iD b off)) n I] w λe B=>e=k8 (uu .u64 (Orch.uns l))/\B=w:=by
 subst z;go_enter func156,ntmps156;go_wp2;go_loop [3,8] (λx i=>∃k,k<=y l/\i=iE k/\x=uu .u64 (Orch.uns (l.take k))) (λ_ i=>y l - (intOf i).toNat)
 case atStart=>exact⟨0,bF _,iI,iI⟩
 case round=>
  obtain⟨k,E,rfl,rfl⟩:=hrel;by_cases Y:k<y l
  ·have f:=D k Y;have V:Hid (Orch.uns (l.take (k+1))=Orch.uns (l.take k) * 256+l[k].toNat):=(by
      rw[dM Y];unfold Orch.uns;rw[List.foldl_append]
      rfl)
   have a:Orch.uns (l.take k)<256 ^ 7:=by
    exact aA (Orch.uns_lt (l.take k)) (Nat.pow_le_pow_right Aa Ai)
   have M:(Orch.uns (l.take k):Int)<72057594037927936:=by
    omega
   have h:l[k].toNat<256:=gJ _;clear a;generalize Orch.uns (l.take k)=X at *;go_wp2;go_round
   case rel=>exact⟨k+1,Aa,by go_num,Aih (by rw[Ahn X _ Aa h,V.out])⟩
   case measure=>first|(simp[intOf];done)|(simp[intOf];omega)
  ·go_wp2;go_ret;exact⟨Rg (by rw[bO Aa]),iI⟩
def SS(l:gT)(n)(z:y l=n):Orch.sgn l=if 256 ^ n<=2 * Orch.uns l then(Orch.uns l:Int) - 256 ^ n else Orch.uns l:=by
 subst z;rfl
def Afd(w b off I)(l:gT)(z:y l=1)(D:Bytes w b off l):E m 158 #[qh (lj (iD b off)) 1 I] w λe B=>e=k8 (iE (Orch.sgn l))/\B=w:=by
 have Y:(Orch.uns l:Int)<256:=by
  have:=Orch.uns_lt l;rw[z]at this;omega
 have n:Hid _:=SS l 1 z;go_enter xe,wi;go_wp2_with (go_at_call 156;apply(Ii w b off 1 I l z Aa D).mono;rintro e B⟨rfl,rfl⟩);go_ret;refine⟨Rg ?_,iI⟩;rw[n.out];unfold wrap64;split<;>omega
def BA(w b off I)(l:gT)(z:y l=4)(D:Bytes w b off l):E m 158 #[qh (lj (iD b off)) 4 I] w λe B=>e=k8 (iE (Orch.sgn l))/\B=w:=by
 have Y:(Orch.uns l:Int)<4294967296:=by
  have:=Orch.uns_lt l;rw[z]at this;omega
 have n:Hid _:=SS l 4 z;go_enter xe,wi;go_wp2_with (go_at_call 156;apply(Ii w b off 4 I l z Aa D).mono;rintro e B⟨rfl,rfl⟩);go_ret;refine⟨Rg ?_,iI⟩;rw[n.out];unfold wrap64;split<;>omega
def Afe(w b off I)(l:gT)(z:y l=8)(D:Bytes w b off l):E m 158 #[qh (lj (iD b off)) 8 I] w λe B=>e=k8 (iE (Orch.sgn l))/\B=w:=by
 have c:=Ii w b off 8 I l z Aa D;have a:Hid (Orch.uns l<18446744073709551616):=by
  have:=Orch.uns_lt l
  rwa[z]at this
 have n:Hid _:=SS l 8 z;generalize Orch.uns l=L at *;go_enter xe,wi;go_wp2_with (go_at_call 156;apply c.mono;rintro e B⟨rfl,rfl⟩);go_ret;refine⟨Rg ?_,iI⟩;rw[n.out];have C:=a.out;have e:IntKind.u64.wrap (L:Int)=(L:Int):=by
  simp[IntKind.wrap,IntKind.bits,IntKind.signed];omega
 unfold wrap64;split<;>omega
def A4(l:gT):List O:=l.map λc=>uu qg c.toNat
def Iv(a b):A4 (a++b)=A4 a++A4 b:=cP
def UB(n m):∀a,m+1<=a->(Orch.be n a).take (a - m)=(Orch.be n a).take (a - (m+1))++[qe ((n / 256 ^ m) % 256).toNat]:=by
 intro a
 induction a with
 |zero=>intro h;omega
 |succ k O=>
  intro h;unfold Orch.be;by_cases e:m=k
  ·simp_all
  ·rw[show k+1 - m=(k - m)+1 by omega,show k+1 - (m+1)=(k - (m+1))+1 by omega,gx,gx,O Aa]
   rfl
def UC(n m)(L:m<=7):IntKind.u64.wrap n / 2 ^ (8 * m) % 256=((qe ((n / 256 ^ m) % 256).toNat).toNat:Int):=by
 have e:IntKind.u64.wrap n=n % 18446744073709551616:=by simp[IntKind.wrap,IntKind.bits,IntKind.signed]
 have f:∀q:Int,((qe (q % 256).toNat).toNat:Int)=q % 256:=λq=>by
  rw[s8];omega
 rw[e,f]
 match m,L with
 |0,_=>simp
 |1,_=>omega
 |2,_=>omega
 |3,_=>omega
 |4,_=>omega
 |5,_=>omega
 |6,_=>omega
 |7,_=>omega
def Tryz.info5:(prog.info? 5).map (λi=>(i.zero,i.size,i.bytes))=lj (lj (uu qg 0),1,1):=Ab
def PM(w b v n)(a:Nat)(X:gT)(s:a<=8)(d:w.ownsRow b 5 1 v (y X) (A4 X))(h:b<=R w.1)(Z:y X<=100000):xq y7 80 #[v,iE n,iE a] w λe B=>∃U,e=k8 U/\B.ownsRow b 5 1 U (X++Orch.be n a).length (A4 (X++Orch.be n a))/\vu b w B:=by
 obtain⟨o,V,p,W,T⟩:=info_parts Tryz.info5;go_enter func80,ntmps80;go_wp2;go_loopw [0,7] (λu i wr=>∃j,j<=a/\i=iE ((j:Int) - 1)/\Hid (wr.ownsRow b 5 1 u (X++(Orch.be n a).take (a - j)).length (A4 (X++(Orch.be n a).take (a - j))))/\Hid (vu b w wr))
  (λ_ i _=>(intOf i+1).toNat)
 case atStart=>exact⟨a,aC _,iI,by show World.ownsRow _ _ _ _ _ _ _;rw[Nat.sub_self];simpa using d,nu _ _⟩
 case round=>
  obtain⟨j,l,rfl,O,x⟩:=hrel;cases j with
  |zero=>
   exact Xay
  |succ m=>
   rw[show((m+1:Nat):Int) - 1=(m:Int) by omega];refine Cvn λK f=>?_;have HB:Hid (IntKind.u64.wrap n / 2 ^ (8 * m) % 256=((qe ((n / 256 ^ m) % 256).toNat).toNat:Int)):=UC n m Aa;generalize X++(Orch.be n a).take (a - (m+1))=L at *;go_wp2_with (at_builtin;refine wpList_append_own _ iI _ _ 37 iI b 5 o (uu qg 0) 1 1 underlying37 V p W T iI Ae _ _ _ iI (O.out.alloc _) (iC wr.1.size) 1 1 [_] iI iI (cell_one_new _ _ _) ?c2 ?c3 ?c4 ?c5 ?_)
   case c2=>intro u r;simp at r;subst r;rfl
   case c3=>unfold maxLen;omega
   case c4=>omega
   case c5=>have:=x.out.size;simp;omega
   intro U H J c _;have M:Hid (vu b w H):=(x.out.alloc (by have:=x.out.size;omega) _).grown c (by have:=x.out.size;simp;omega) (λk E=>(O.out.lt k E).1);refine Ge5 λg=>?_;clear J c;exact Cl3
#print axioms PM
abbrev ltv(sg sh sz lo hi:Int)(tx:Bool)(fn:Int):O:=.agg #[uu qg sg,iE sh,iE sz,iE lo,iE hi,gd tx,uu qg fn]
abbrev Ia(sg sh sz lo hi:Int)(tx:Bool)(fn:Int)(ps:O):O:=.agg #[uu qg sg,iE sh,iE sz,iE lo,iE hi,gd tx,uu qg fn,ps]
abbrev vv(n:Int)(s:gU)(l:O):O:=.agg #[iE n,pc s,l]
def Akr:Nat:=8
structure It(valid:gS)(Tabs:gX):Prop where
 gives:∀(s:gU)w,Tabs w->s.size<=200->xq y7 201 #[pc s] w λe w'=>e=k8 (gd (valid s))/\iF w w'
 kept:∀{B} {w w'},Akr<=B->vu B w w'->Tabs w->Tabs w'
 size:∀{w},Tabs w->Akr<=iL w.1
def Gp{a b}(h:a=b):Ending.returned (gd a)=k8 (gd b):=by rw[h]
def toList_nil(s:gU):s.toList = []↔s.size=0:=by
 rw[Lib.toList_data,Lib.size_eq];exact bN.symm
def Bf(w o):iF w (w.alloc o):=(nu _ _).alloc (aC _) o
def Dj(w o I):iF w ((w.alloc o).alloc I):=(Bf w o).alloc Ad I
def Pq(w o I A):iF w (((w.alloc o).alloc I).alloc A):=(Dj w o I).alloc Ah A
section
def CI(U:It h z)(H)(e:z H)(a b c d f K u)(s:gU):E m 218 #[ltv a b c d f K u,pc s] H λg B=>
   g=k8 (gd (decide (s.size<=200)&&(!K||h s)))/\iF H B:=by
 by_cases J:s.size<=200
 ·have i:(s.size:Int)<=200:=Aa;rw[decide_eq_true J,gB];cases K
  ·clear e;go_enter yu,vf;go_wp2;go_ret;exact⟨Gp Ad,Bf _ _⟩
  ·have R:z (H.alloc (.cells #[uu qg a,iE b,iE c,iE d,iE f,gd true,uu qg u] 205)):=U.kept (U.size e) (Bf _ _) e;have j:=U.1 s _ R J;generalize h s=V at *;clear e R;go_enter yu,vf;go_wp2_with (go_at_call 201;apply j.mono;rintro g B⟨rfl,D⟩);go_ret;exact⟨Gp Ad,(Bf _ _).trans (D.mono Ad)⟩
 ·have i:¬(s.size:Int)<=200:=Aa;rw[decide_eq_false J,fW];clear e;go_enter yu,vf;go_wp2;go_ret;exact⟨Gp iI,Bf _ _⟩
def Akm(w h P a V K u)(F Q:hU)(p d v q n s):E m 205 #[Ia h 0 P a V K u (qh F p d),vv n s (qh Q v q)] w λe B=>
   e=k8 (gd (decide (a<=n)&&decide (n<=V)&&decide (s.size=0)&&decide (v=0)))/\iF w B:=by
 obtain⟨R,b⟩:∃R,(decide (a<=n)&&decide (n<=V)&&decide (s.size=0)&&decide (v=0))=R:=⟨_,iI⟩;rw[b];have z:Hid ((decide (a<=n)&&decide (n<=V)&&decide (s.size=0)&&decide (v=0))=R):=b;exact H6m
def Ako(w h P a V K u)(F Q:hU)(p d v q n s):E m 205 #[Ia h 2 P a V K u (qh F p d),vv n s (qh Q v q)] w λe B=>
   e=k8 (gd (decide (n=0)&&decide (s.size=0)&&decide (v<=32)))/\iF w B:=by
 obtain⟨R,b⟩:∃R,(decide (n=0)&&decide (s.size=0)&&decide (v<=32))=R:=⟨_,iI⟩;rw[b];have z:Hid ((decide (n=0)&&decide (s.size=0)&&decide (v<=32))=R):=b;exact H6m
def Akp(w h P a V K u)(F Q:hU)(p d v q n s):E m 205 #[Ia h 3 P a V K u (qh F p d),vv n s (qh Q v q)] w λe B=>
   e=k8 (gd (decide (n=0)&&decide (s.size=0)&&decide (v=p)))/\iF w B:=by
 obtain⟨R,b⟩:∃R,(decide (n=0)&&decide (s.size=0)&&decide (v=p))=R:=⟨_,iI⟩;rw[b];have z:Hid ((decide (n=0)&&decide (s.size=0)&&decide (v=p))=R):=b;exact H6m
def Akn(U:It h z)(w)(hT:z w)(f P c b K u)(F Q:hU)(p d v q n s):E m 205 #[Ia f 1 P c b K u (qh F p d),vv n s (qh Q v q)] w λe B=>
   e=k8 (gd (decide (n=0)&&(decide (s.size<=200)&&(!K||h s))&&decide (v=0)))/\iF w B:=by
 have g:Hid (∀B,z B->E m 218 #[ltv f 1 P c b K u,pc s] B λe t=>e=k8 (gd (decide (s.size<=200)&&(!K||h s)))/\iF B t):=λB i=>CI U B i f 1 P c b K u s;generalize (decide (s.size<=200)&&(!K||h s))=C at *;by_cases a:n=0
 ·subst a;have o:Hid (z (((w.alloc (.cells #[uu qg f,iE 1,iE P,iE c,iE b,gd K,uu qg u,qh F p d] 208)).alloc (.cells #[iE 0,pc s,qh Q v q] 183)).alloc (.cells #[uu qg f,iE 1,iE P,iE c,iE b,gd K,uu qg u] 205))):=U.kept (U.size hT) (Pq _ _ _ _) hT;clear hT;go_enter func205,ntmps205;go_wp2_with (go_at_call 218;refine(g.out _ ?hT).mono ?_)
  case hT=>exact o.out
  rintro e B⟨rfl,D⟩;have Z:iF w B:=(Pq _ _ _ _).trans (D.mono Ah);have x:B.cell? ⟨R w.1+1,2,jh⟩=lj (qh Q v q):=(D.cell (p:=⟨R w.1+1,2,jh⟩) Ad).trans (by rw[World.cell?_alloc_past _ _ _ Ad,World.cell?_alloc_at _ _ _ _ Ad];rfl);clear D o g;cases C
  ·go_wp2;go_ret;exact⟨Gp Ad,Z⟩
  ·go_wp2;go_ret;refine⟨Gp ?_,Z⟩;rw[eQ];simp
 ·have j:(n==0)=sd:=by simpa using a
  rw[decide_eq_false a,fW,fW];clear hT g a;go_enter func205,ntmps205;go_wp2;go_ret;exact⟨Gp iI,Pq _ _ _ _⟩
end
open Orch
def Uc{b:Type}(f:a->List b)(k)(I:∀x,(f x).length=k):∀(L:List a)i j,j<k->(L.flatMap f)[i * k+j]?=(L[i]?).bind λx=>(f x)[j]?:=by
 intro L
 induction L with
 |nil=>intro i j _;simp
 |cons x r O=>
  intro i j l;rw[List.flatMap_cons];cases i with
  |zero=>
   grind
  |succ i=>
   rw[dK Aj,I,show(i+1) * k+j - k=i * k+j by rw[Nat.succ_mul];omega,O i j l];simp
def Acr{b:Type}(f:a->List b)(k)(I:∀x,(f x).length=k):∀L,(L.flatMap f).length=y L * k:=by
 intro L
 induction L with
 |nil=>simp
 |cons x r O=>grind
abbrev QX(l:Lt):O:=ltv l.sign.toNat l.shape l.size l.least l.5 l.text l.fin.toNat
abbrev E6(l:Lt)(ps:O):O:=Ia l.sign.toNat l.shape l.size l.least l.5 l.text l.fin.toNat ps
abbrev OO(v:V)(l:O):O:=vv v.n v.s l
def Od(p:Ty×O):List O:=[uu qg p.1.l.sign.toNat,iE p.1.l.shape,iE p.1.l.size,iE p.1.l.least,iE p.1.l.5,gd p.1.l.text,uu qg p.1.l.fin.toNat,p.2]
def Eo(p:V×O):List O:=[iE p.1.n,pc p.1.s,p.2]
inductive E7(w:gk)(S:gV):List Ty->uo->Prop
 |nil (a:hU) (c):E7 w S [] (qh a 0 c)
 |row (ps) (g cap) (h0:ps≠[]) (hcap:iK ps<=cap) (hS:S g)
   (hc:∀j u,(ps.flatMap Od)[j]?=lj u->w.cell? (iD g j)=lj u)
   (hr:∀p,p∈ps->E7 w S p.1.ps p.2):E7 w S (ps.map l9) (qh (lj (iC g)) (iK ps) cap)
inductive D8(w:gk)(S:gV):List V->uo->Prop
 |nil (a:hU) (c):D8 w S [] (qh a 0 c)
 |row (ps) (g cap) (h0:ps≠[]) (hcap:iK ps<=cap) (hS:S g)
   (hc:∀j u,(ps.flatMap Eo)[j]?=lj u->w.cell? (iD g j)=lj u)
   (hr:∀p,p∈ps->D8 w S p.1.l p.2):D8 w S (ps.map l9) (qh (lj (iC g)) (iK ps) cap)
def E7.congr(d:∀b,S b->N b)(W:∀b,S b->B.1[b]?=w.1[b]?){L}(h:E7 w S L v):E7 B N L v:=by
 exact K0s
def D8.congr(d:∀b,S b->N b)(W:∀b,S b->B.1[b]?=w.1[b]?){L}(h:D8 w S L v):D8 B N L v:=by
 exact K0s
def E7.shape{L}(h:E7 w S L v):∃a c,v=qh a (y L) c:=by
 cases h with
 |nil=>exact⟨_,_,iI⟩
 |row b g I=>simp
def D8.shape{L}(h:D8 w S L v):∃a c,v=qh a (y L) c:=by
 cases h with
 |nil=>exact⟨_,_,iI⟩
 |row b g I=>simp
def FN(p):(Od p).length=8:=iI
def FO(p):(Eo p).length=3:=iI
def E7.at{L v}(h:E7 w S L v)(i)(V:i<y L):∃g I x,v=qh (lj (iC g)) (y L) I/\y L<=I/\S g/\E7 w S L[i].ps x/\∀j u,(Od (L[i],x))[j]?=lj u->w.cell? ⟨g,i * 8+j,jh⟩=lj u:=by
 cases h with
 |nil=>simp at V
 |row ps g I F C H M Y=>
  have p:i<y ps:=by simpa using V
  refine⟨g,I,ps[i].2,by rw[bV],Aj,H,?_,λj u r=>?_⟩
  ·grind
  ·apply M _ u;have l:j<8:=by
    have:=(aF.1 r).1
    rwa[FN]at this
   rw[Uc Od 8 FN ps i j l,aH p,eM]
   grind
def E7.of_own{a ps}(h:w.ownsRow a 208 8 v (y ps) (ps.flatMap Od))(Y:∀p,p∈ps->E7 w S p.1.ps p.2)(c:∀g,v.ownBlock=lj g->S g):E7 w S (ps.map l9) v:=by
 rcases h.2 with⟨rfl,F⟩|⟨g,I,H,rfl,D,G,z,_,s,R⟩
 ·rw[bN.1 F];exact .nil _ _
 ·by_cases F:ps = []
  ·subst F;exact .nil _ _
  ·refine .row ps g I F z (c g iI) (λj u r=>?_) Y;have:=h.cells iI j u r
   rwa[Addr.add_lit,aX]at this
def D8.of_own{a}(h:w.ownsRow b 183 3 v (y a) (a.flatMap Eo))(Y:∀p,p∈a->D8 w S p.1.l p.2)(c:∀g,v.ownBlock=lj g->S g):D8 w S (a.map l9) v:=by
 rcases h.2 with⟨rfl,F⟩|⟨g,I,H,rfl,D,G,z,_,s,R⟩
 ·rw[bN.1 F];exact .nil _ _
 ·by_cases F:a = []
  ·subst F;exact .nil _ _
  ·refine .row a g I F z (c g iI) (λj u r=>?_) Y;have:=h.cells iI j u r
   rwa[Addr.add_lit,aX]at this
def Aea(w S)(t:Ty)(X)(h:E7 w S t.ps X)(H:∀c,S c->c<R w.1)(i)(P:t.l.shape=2)(F:0<y t.ps):E m 206 #[E6 t.l X,iE i] w λe B=>∃x,e=k8 (E6 (t.ps[0]).l x)/\E7 w S (t.ps[0]).ps x/\iF w B:=by
 obtain⟨g,I,x,rfl,C,G,Z,M⟩:=h.at 0 F;obtain⟨J,a,rfl⟩:=Z.shape;have j:=H g G;have c0:=M 0 _ iI;refine Qsy λm o N q r=>?_;have l:=M 6 _ iI;have k:=M 7 _ iI;generalize t.ps[0]=p at *;have D:Hid (E7 w S p.ps (qh J (y p.ps) a)):=Z;clear M Z H h G;simp only[E6,Ia,P];have d:(0:Int)<(y t.ps:Int):=Aa;exact Cdz
def Ad9(w S)(t:Ty)(X)(h:E7 w S t.ps X)(H:∀c,S c->c<R w.1)(i)(P:t.l.shape=3)(F:i<y t.ps)(_hb:y t.ps<=1000):E m 206 #[E6 t.l X,iE i] w λe B=>∃x,e=k8 (E6 (t.ps[i]).l x)/\E7 w S (t.ps[i]).ps x/\iF w B:=by
 obtain⟨g,I,x,rfl,C,G,Z,M⟩:=h.at i F;obtain⟨J,a,rfl⟩:=Z.shape;have j:=H g G;have c0:w.cell? ⟨g,i * 8,jh⟩=_:=M 0 _ iI;refine Qsy λm o N q r=>?_;have l:=M 6 _ iI;have k:=M 7 _ iI;generalize t.ps[i]=p at *;have D:Hid (E7 w S p.ps (qh J (y p.ps) a)):=Z;clear M Z H h G;simp only[E6,Ia,P];have d:(i:Int)<(y t.ps:Int):=Aa;exact Cdz
def CN:Nat->Ty->Prop
 |0,_=>False
 |k+1,t=>t.l∈letters/\(t.l.shape=2->y t.ps=1)/\y t.ps<=64/\∀p,p∈t.ps->CN k p
def Nv{l}(h:l∈letters):l.shape=0∨l.shape=1∨l.shape=2∨l.shape=3:=by
 simp only[letters,bH,eC,or_false]at h
 grind
def Uk{l}(h:l∈letters)(F:l.shape=0):l.size=1∨l.size=4∨l.size=8:=by
 simp only[letters,bH,eC,or_false]at h
 grind
def Q5(l i)(d:a)(h:i<y l):l.getD i d=l[i]:=by
 grind
def VE{t}(h:CN (k+1) t)(i)(C:t.l.shape=2∨t.l.shape=3/\i<y t.ps):CN k (Orch.part t i):=by
 have ⟨_,J,_,Q⟩:=h;unfold Orch.part
 grind
def MY(w S t)(a:CN (k+1) t)(X)(h:E7 w S t.ps X)(H:∀b,S b->b<R w.1)(i)(C:t.l.shape=2∨t.l.shape=3/\i<y t.ps):E m 206 #[E6 t.l X,iE i] w λe B=>∃x,e=k8 (E6 (Orch.part t i).l x)/\E7 w S (Orch.part t i).ps x/\iF w B:=by
 have ⟨_,J,D,_⟩:=a;unfold Orch.part;rcases C with P|⟨P,V⟩
 ·rw[aL P,Q5 _ _ _ Aa];exact Aea w S t X h H i P Aa
 ·rw[aM Aa,Q5 _ _ _ V];exact Ad9 w S t X h H i P V Aa
def J5(w:T)(v:O)(l:gT):Prop:=∃b off cap,v=qh (lj (iD b off)) (y l) cap/\y l<=cap/\b<R w.1/\Bytes w b off l
def J5.below{B a l}(h:J5 w v l)(D:vu B w a)(k:R w.1<=B):J5 a v l:=by
 have ⟨b,off,I,e,M,Y,o⟩:=h;exact⟨b,off,I,e,M,aA Y D.size,λi V=>(D.cell (p:=⟨b,off+i,jh⟩) (aA Y k)).trans (o i V)⟩
def Bytes.drop{l}(h:Bytes w b off l)(n):Bytes w b (off+n) (l.drop n):=λi V=>by
 rw[cV]at V;rw[List.getElem_drop,fE];exact h _ Aa
def Bytes.take{l}(h:Bytes w b off l)(n):Bytes w b off (l.take n):=λi V=>by
 rw[dZ]at V;rw[List.getElem_take];exact h i Aa
def J5.tail1{l:gT}(C:y l<=I)(Y:b<R w.1)(n)(z:n<=y l)(N:I=n):J5 w (qh (lj (iD b off)) (y l - n) 0) (l.drop n):=by
 exact H00
def J5.tail{l:gT}(C:y l<=I)(D:Bytes w b off l)(Y:b<R w.1)(n)(z:n<=y l):J5 w (if I=n then qh (lj (iD b off)) (y l - n) 0 else qh (lj ⟨b,off+n,jh⟩) (y l - n) (I - n)) (l.drop n):=by
 split
 ·have N:=‹_›;exact H00
 ·exact(⟨b,off+n,I - n,by rw[cV],by rw[cV];omega,Y,D.drop n⟩)
def Ks(bv:O)(l:gT)(rv:O)(rest:gT):Prop:=∀W,J5 W bv l->J5 W rv rest
def Ks.refl(T l):Ks T l T l:=λ_ h=>h
def Ks.trans{a b c l m n}(h:Ks a l b m)(k:Ks b m c n):Ks a l c n:=λW d=>k W (h W d)
def Ks.cut(b off I)(l:gT)(n)(z:n<=y l):Ks (qh (lj (iD b off)) (y l) I) l (if I=n then qh (lj (iD b off)) (y l - n) 0 else qh (lj ⟨b,off+n,jh⟩) (y l - n) (I - n)) (l.drop n):=by
 intro W h;have ⟨J,Q,L,e,M,Y,D⟩:=h;obtain⟨⟨rfl,rfl⟩,rfl⟩:=e;exact J5.tail M D Y n z
def Fg{B}(w):=(nu B w).drew
def Px(bv:O)(l:gT)(most:Nat)(e:Ending):Prop:=
 match Orch.count l most with
 |none=>e=k8 (.tuple #[iE 0,qh jh 0 0,gd sd])
 |some (n,rest)=>∃v,e=k8 (.tuple #[iE n,v,gd true])/\Ks bv l v rest
def Sb(w T)(l:gT)(K:y l<=1000)(u:J5 w T l)(m:Nat)(f:m<=1000):xq y7 221 #[T,iE m] w λe B=>Px T l m e/\iF w B:=by
 obtain⟨b,off,I,rfl,C,Y,D⟩:=u;unfold Px Orch.count;by_cases q:y l<4
 ·simp only[aL q];have H:(y l:Int)<4:=Aa;generalize (y l)=k at *;clear D;go_enter gj,yx;go_wp2;go_ret3;exact⟨iI,nu _ _⟩
 ·simp only[aM q];have c:=Ii w b off 4 I (l.take 4) Ai Aa (D.take 4);have H:¬(y l:Int)<4:=Aa;have a:Hid (I=4->Ks (qh (lj (iD b off)) (y l) 4) l (qh (lj (iD b off)) (y l - 4) 0) (l.drop 4)):=λN=>by
   have:=Ks.cut b off I l 4 Aa
   rwa[aL N,N]at this
  have E:Hid (¬I=4->Ks (qh (lj (iD b off)) (y l) I) l (qh (lj ⟨b,off+4,jh⟩) (y l - 4) (I - 4)) (l.drop 4)):=λN=>by
   have:=Ks.cut b off I l 4 Aa
   rwa[aM N]at this
  refine Kyl λt=>?_;clear D;generalize Orch.uns (l.take 4)=X at *;generalize l.drop 4=L at *;by_cases r:m<X
  ·rw[aL r];have d:(m:Int)<X:=Aa;clear a E;generalize (y l)=k at *;go_enter gj,yx;go_wp2_with (go_at_call 156;apply c.mono;rintro e B⟨rfl,rfl⟩);go_ret3;exact⟨iI,nu _ _⟩
  ·rw[aM r];have d:¬(m:Int)<X:=Aa;generalize (y l)=k at *;go_enter gj,yx;go_wp2_with (go_at_call 156;apply c.mono;rintro e B⟨rfl,rfl⟩);go_region
   all_goals go_wp2
   all_goals go_ret3
   all_goals first|exact⟨⟨_,iI,a.out ‹_›⟩,Fg _⟩|exact⟨⟨_,iI,E.out ‹_›⟩,Fg _⟩
def BQ{P c}{Q:Exit->Act->T->Prop}{a}(F:gX)(hF:F w)(h:∀W,F W->Code.wp P c Q a W):=h w hF
def cellOf{j X u}(h:W.1[g]?=lj (.cells cs t X))(r:cs[j]?=lj u):W.cell? (iD g j)=lj u:=by
 rwa[cell_of_row W g j cs t X h]
def Dm{W:T}{j}(h:W.1[g]?=lj (.cells cs t (0,0))):W.frozen? (iD g j)=sd:=by simp[World.frozen?,h]
def Vi{w:World}{f p}(V)(h:w.1[b]?=some (.cells c t f))(F:c[V]?=some p:=by exact iI):w.cell? ⟨b,V,none⟩=some p:=cellOf h F
def Ck2{w:World}{f p N}(V a)(h:w.1[b]?=some (.cells c t f))(F:c[V]?=some p:=by exact iI)(S:c[a]?=some N:=by exact iI):w.cell? ⟨b,V,none⟩=some p/\w.cell? ⟨b,a,none⟩=some N:=⟨cellOf h F,cellOf h S⟩
def Fk1{w:T}{c:gY}(V)(h:w.1[b]?=lj (.cells c t)):w.frozen? (iD b V)=sd:=Dm h
def Fk2{w:T}{c:gY}(V a)(h:w.1[b]?=lj (.cells c t)):w.frozen? (iD b V)=sd/\w.frozen? (iD b a)=sd:=⟨Dm h,Dm h⟩
def ltOf{o}(h:W.1[g]?=lj o):=(aG.1 h).1
def Aoj(w:T)(C K I):(((w.alloc C).alloc K).alloc I).1[R w.1]?=lj C/\(((w.alloc C).alloc K).alloc I).1[R w.1+1]?=lj K/\(((w.alloc C).alloc K).alloc I).1[R w.1+1+1]?=lj I:=by
 refine⟨?_,?_,?_⟩
 ·rw[ir _ _ _ Ah,ir _ _ _ Ad];exact iw w C
 ·rw[ir _ _ _ Ad];have:=iw (w.alloc C) K;simpa using this
 ·have:=iw ((w.alloc C).alloc K) I;simpa using this
def Ru(w:T)(C K):((w.alloc C).alloc K).1[R w.1]?=lj C/\((w.alloc C).alloc K).1[R w.1+1]?=lj K:=by
 refine⟨?_,?_⟩
 ·rw[ir _ _ _ Ad];exact iw w C
 ·have:=iw (w.alloc C) K;simpa using this
section
def Zo(U:It h z)(w)(V:z w)(t)(l:CN (k+1) t)(F:hU)(d v)(Q:hU)(q):E m 205 #[E6 t.l (qh F (y t.ps) d),OO v (qh Q (y v.l) q)] w λe B=>e=k8 (gd (Orch.fits h t v))/\iF w B:=by
 unfold Orch.fits;rcases Nv l.1 with a|a|a|a
 ·simp only[E6,a];exact Akm w _ _ _ _ _ _ _ _ _ _ _ _ _ _
 ·simp only[E6,a];exact Akn U w V _ _ _ _ _ _ _ _ _ _ _ _ _ _
 ·simp only[E6,a];exact Ako w _ _ _ _ _ _ _ _ _ _ _ _ _ _
 ·simp only[E6,a];exact Akp w _ _ _ _ _ _ _ _ _ _ _ _ _ _
def Ra(e:Ending):Prop:=∃(n:Int)(s:gU)(a a':hU)(m c m' c':Nat),e=k8 (.tuple #[vv n s (qh a m c),qh a' m' c',gd sd])
end
end Go.Proofs.YtcbilgmfdgpomaaGreatDoor
