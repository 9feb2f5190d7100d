import Derived.Test.YtcbilgmfdgpomaaGreatDoorQ16
open Array renaming size → iL
set_option maxRecDepth 8000
set_option linter.all false
set_option maxRecDepth 8000
open Option renaming some → lj,none → jh
open Go renaming Value → uo,World → gk,TypeId → q9,Value → N
open Go.Proofs.YtcbilgmfdgpomaaGreatDoor.Rows renaming uptoBulk → iz,uptoBulkAll → vux
open Bool renaming true → km
open List renaming replicate → vm4,take → rze,length → iK,length → T
open Go.World renaming cell?_of_block → qpd
open Go.Value.slice renaming injEq → cdr
open Go.Frame renaming enter → w8
open Go.Value renaming int → uu,string → pc,slice → qh,bool → gd
open Go.Obj renaming cells → oh
open Go.Proofs.Tryz
variable {H:Type}{W w:gk}{a:Nat×Nat}{b f g i k o r:Nat}{c:gY}{l:hZ}{p:Prop}{t u:q9}{v x:N}
def Sj8(h:p:=by
 unfold Cell.ok at h;rw[r]at h;cases v<;>simp at h<;>rfl):p:=h
def Ypf(h:p:=by
 exact⟨cs,C,λi v q=>let⟨u,r,E⟩:=T i v q;Z3 ((aJ Tryz.prog.underlying (dR r)).trans Tryz.underlying9) E⟩):p:=h
def Lqr(h:p:=by
 exact⟨cs,C,λi v q=>let⟨u,r,E⟩:=T i v q;Z2 ((aJ Tryz.prog.underlying (dR r)).trans Tryz.underlying5) E⟩):p:=h
namespace Go.Proofs.YtcbilgmfdgpomaaGreatDoor
variable {e:hU}
open Go.ChangeShapes Go.WideShapes Go.ChangeAt Go.RowKit Go.Pair
def VO(s:gU):T s.data.toList=s.size:=Ac
def KI{H}(l):Rows.uptoBulk (DataW.lit (H:=H) (.string l))=l.length+1:=by simp [Rows.uptoBulk]
theorem WN{l:List (DataW H)}(h:i<T l):iz l[i]<=vux l:=by
 induction l generalizing i with
 |nil=>simp at h
 |cons x r O=>
  simp only[vux]
  grind
def UD:prog.cellsOf 34=6:=Ab
def Agk:prog.cellsOf 3=1:=Ab
def Agl:prog.cellsOf 4=1:=Ab
theorem Ts{u}(h:w.cell? (iD b k)=lj u):∃c t a,w.1[b]?=lj (oh c t a)/\c[k]?=lj u:=by
 unfold World.cell? at h
 grind
def Hs{u}(D:w.1[b]?=lj (oh c t a))(h:w.cell? (iD b k)=lj u):c[k]?=lj u:=by
 have ⟨B,S,H,C,J⟩:=Ts h
 grind
structure AkW(W:gk)(b off)(x:Ak):Prop where
 c0:W.cell? (iD b off)=lj (iE x.k)
 c1:W.cell? ⟨b,off+1,jh⟩=lj (iE x.a)
 c2:W.cell? ⟨b,off+2,jh⟩=lj (iE x.b)
 c3:W.cell? ⟨b,off+3,jh⟩=lj (pc x.s)
 c4:W.cell? ⟨b,off+4,jh⟩=lj (iE x.v)
 c5:W.cell? ⟨b,off+5,jh⟩=lj (gd x.w)
def TM(W:gk)(oA:hU)(xs:List Ak):Prop:=∀i(x:Ak),xs[i]?=lj x->∃b off,oA=lj (iD b off)/\AkW W b (off+i * 6) x/\x.Ok
def Abk(l:List (DataW H))(h:∀i(V:i<T l),2<=iz l[i]):2 * T l<=vux l:=by
 induction l with
 |nil=>simp[vux]
 |cons x r O=>
  have F:=h 0 Ad;have C:=O λi V=>h (i+1) (by simpa using V);simp only[vux,aV,bG]at F⊢;omega
def TZ{a}{P:q9×uo->a}{I H y}(aa:DataW.trod P prog W 0 (λ_=>km) km I 22 [qh e H f]=lj y)(E:iz y.1<=1048576):H<=f/\2 * H<=iz y.1/\∃X,iK X=H/\TM W e X:=by
 rcases DataW.trod_slice Tryz.underlying22 aa with⟨z,_⟩|⟨v,len,ai,d,aj,n,al,z,hy,_,hl,hm,ag,O,_,_⟩
 ·simp only[dP,and_true,cdr]at z;obtain⟨rfl,rfl,rfl⟩:=z;exact⟨Aa,Aa,[],iI,λi x V=>by simp at V⟩
 ·simp only[dP,and_true,cdr]at z;obtain⟨rfl,rfl,rfl⟩:=z;rw[hy]at E⊢;simp only[iz]at E⊢;have j:∀i,i<H->(∀V:i<(d.map (·.1)).length,2<=iz ((d.map (·.1))[i]))/\∃x b off,v=(iD b off)/\AkW W b (off+i * 6) x/\x.Ok:=λi V=>?j
  ·refine⟨hl,?_,List.ofFn (n:=H) λi=>Classical.choose (j i.1 i.2).2,Ad,λi x Z=>?_⟩
   ·have:=Abk (d.map (·.1)) λi V=>(j i (by simpa[ag] using V)).1 V;rw[bV,ag]at this;omega
   ·have V:i<H:=by have:=(aF.1 Z).1;simpa using this
    rw[List.getElem?_ofFn,dif_pos V]at Z;obtain⟨b,off,C,J,T⟩:=Classical.choose_spec (j i V).2;cases Z;exact⟨b,off,by rw[C],J,T⟩
  have ar:True:=trivial;rw[UD]at O;have p:i<iK d:=Aa;have au:iz ((d.map (·.1))[i]'(by simpa using p))<=vux (d.map (·.1)):=WN (by simpa using p);have F:=O i V;rw[aH p]at F;obtain⟨cs,z,am⟩:=bM.1 F;obtain⟨X,c,av,an,G,ab,g⟩:=DataW.trod_struct underlying34 am;rw[UD]at G;obtain⟨c0,Q,R,U,A,l,rfl⟩:∃c0 Q R U A l,cs = [c0,Q,R,U,A,l]:=by
   match cs,G with
   |[c0,Q,R,U,A,l],_=>exact⟨_,_,_,_,_,_,iI⟩
  obtain⟨y0,y1,y2,w,y4,y5,rfl⟩:∃c0 Q R U A l,X = [c0,Q,R,U,A,l]:=by
   match X,ab with
   |[c0,Q,R,U,A,l],_=>exact⟨_,_,_,_,_,_,iI⟩
  have K:DataW.trod P prog W 0 (λ_=>km) km c 3 (rze (prog.cellsOf 3) [c0,Q,R,U,A,l])=lj y0:=g 0 _ iI;have L:DataW.trod P prog W 0 (λ_=>km) km c 3 (rze (prog.cellsOf 3) [Q,R,U,A,l])=lj y1:=g 1 _ iI;have S:DataW.trod P prog W 0 (λ_=>km) km c 3 (rze (prog.cellsOf 3) [R,U,A,l])=lj y2:=g 2 _ iI;have f3:DataW.trod P prog W 0 (λ_=>km) km c 9 (rze (prog.cellsOf 9) [U,A,l])=lj w:=g 3 _ iI;have Y:DataW.trod P prog W 0 (λ_=>km) km c 3 (rze (prog.cellsOf 3) [A,l])=lj y4:=g 4 _ iI;have f5:DataW.trod P prog W 0 (λ_=>km) km c 4 (rze (prog.cellsOf 4) [l])=lj y5:=g 5 _ iI;rw[Agk]at K L S Y;rw[UF]at f3;rw[Agl]at f5;obtain⟨z0,a1,_,ad⟩:=DataW.trod_int underlying3 K;obtain⟨z1,a6,_,ao⟩:=DataW.trod_int underlying3 L;obtain⟨z2,a7,_,ap⟩:=DataW.trod_int underlying3 S;obtain⟨s,e3,D,_⟩:=DataW.trod_string underlying9 f3;obtain⟨z4,e4,_,aq⟩:=DataW.trod_int underlying3 Y;obtain⟨bt,e5,_⟩:=DataW.trod_bool underlying4 f5;simp only[List.take_succ_cons,List.take_zero,dP,and_true]at a1 a6 a7 e3 e4 e5;subst a1 a6 a7 e3 e4 e5;have aw:iz w.1+1<=iz ((d.map (·.1))[i]'(by simpa using p)):=by
   simp only[List.getElem_map,an,bC,cM,iz,vux];omega
  have ax:iz w.1=s.size+1:=by rw[D,KI,VO]
  obtain⟨b,off,a8⟩:=v;have M:∀k u,([iE z0,iE z1,iE z2,pc s,iE z4,gd bt]:gZ)[k]?=lj u->W.cell? ((⟨b,off,a8⟩:Addr).add (i * 6+k))=lj u:=λk u h=>by
   have C:=(World.cells?_some z).2.2 k SG;rw[h]at C;rw[←C,Addr.add_add]
  have ae:a8=jh:=by
   by_cases ak:i=0
   ·subst ak;simpa[Addr.add] using(World.cell?_spot (M 0 _ iI))
   ·have af:=O 0 Aa;rw[aH Aa]at af;obtain⟨ay,ah,_⟩:=bM.1 af;have T:=(World.cells?_some ah);have t:=T.2.2 0 Aa;rw[Nat.zero_mul]at t;simp only[Addr.add,bQ]at t;rw[aH (by rw[T.2.1];omega)]at t;exact World.cell?_spot t
  subst ae;have B:=M 0 _ iI;refine Qsy λm o N q r=>?_;rw[Addr.add_lit]at B m o N q r;rw[←fE]at B m o N q r;refine⟨λaz=>?_,⟨z0,z1,z2,s,z4,bt⟩,b,off,iI,⟨B,m,o,N,q,r⟩,⟨bounds_i64 ad,bounds_i64 ao,bounds_i64 ap,bounds_i64 aq,by show s.size<=_;omega⟩⟩;omega
open Go
def Mh:N->Bool
 |gd _|uu _ _|pc _=>km
 |_=>false
def Ud(h:Mh x=km)(n):Az n x=x:=by cases x<;>simp[Mh]at h⊢
def Hm:N->Nat
 |uu _ _=>0
 |pc _=>1
 |gd _=>2
 |qh _ _ _=>3
 |_=>4
section
theorem Mj(h:W.ShapedOpen prog){g m t:Nat}{ts}(G:g<prog.globals.size)(F:(((begin prog (λ_ _=>0) default).world.1[g]?).bind Obj.row?).map (λx=>(iL x.1,x.2))=lj (m,t))(D:prog.buildable t=km)(M:prog.cellTypes prog.depth t=lj ts):∃cs,W.1[g]?=lj (oh cs t (0,0))/\cs.size=m/\∀(i:Nat) v,cs[i]?=lj v->∃u∈ts,Cell.ok prog W .any 0 u v:=by
 have ⟨⟨zero,S⟩,N,e⟩:=bB.1 F;cases e;have ⟨cs,f,s,Y⟩:=h.1 g zero S G N;have ⟨d,Z,_,K⟩:=Y D
 grind
def Z3(r:prog.underlying u=lj .string)(h:Cell.ok prog W .any 0 u v):Hm v=1:=by
 exact Sj8
def Z2{k}(r:prog.underlying u=lj (.int k))(h:Cell.ok prog W .any 0 u v):Hm v=0:=by
 exact Sj8
def Ahd{e}(r:prog.underlying u=lj (.slice e))(h:Cell.ok prog W .any 0 u v):Hm v=3:=by
 exact Sj8
structure JW(W:gk)(g k:Nat)(cs:gY)(t):Prop where
 row:W.1[g]?=lj (oh cs t (0,0))
 kind:∀(i:Nat) v,cs[i]?=lj v->Hm v=k
def Acy(h:W.ShapedOpen prog):∃cs,JW W 0 1 cs 181:=by
 obtain⟨cs,C,J,T⟩:=Mj h (g:=0) (m:=24) (t:=181) (ts:=vm4 24 9) (of_decide_eq_true Ab) Ab Ab Ab;exact Ypf
def Ac1(h:W.ShapedOpen prog):∃cs,JW W 3 1 cs 181:=by
 obtain⟨cs,C,J,T⟩:=Mj h (g:=3) (m:=24) (t:=181) (ts:=vm4 24 9) (of_decide_eq_true Ab) Ab Ab Ab;exact Ypf
def Ac0(h:W.ShapedOpen prog):∃cs,JW W 2 1 cs 180:=by
 obtain⟨cs,C,J,T⟩:=Mj h (g:=2) (m:=3) (t:=180) (ts:=vm4 3 9) (of_decide_eq_true Ab) Ab Ab Ab;exact Ypf
def Acz(h:W.ShapedOpen prog):∃cs,JW W 1 0 cs 3:=by
 obtain⟨cs,C,J,T⟩:=Mj h (g:=1) (m:=1) (t:=3) (ts:=vm4 1 3) (of_decide_eq_true Ab) Ab Ab Ab;exact⟨cs,C,λi v q=>let⟨u,r,E⟩:=T i v q;Z2 ((aJ prog.underlying (dR r)).trans underlying3) E⟩
def Ac3(h:W.ShapedOpen prog):∃cs,JW W 5 0 cs 294:=by
 obtain⟨cs,C,J,T⟩:=Mj h (g:=5) (m:=256) (t:=294) (ts:=vm4 256 5) (of_decide_eq_true Ab) Ab Ab Ab;exact Lqr
def Ac4(h:W.ShapedOpen prog):∃cs,JW W 6 0 cs 297:=by
 obtain⟨cs,C,J,T⟩:=Mj h (g:=6) (m:=32) (t:=297) (ts:=vm4 32 5) (of_decide_eq_true Ab) Ab Ab Ab;exact Lqr
def Ac2(h:W.ShapedOpen prog):∃cs,JW W 4 3 cs 286/\cs.size=4:=by
 obtain⟨cs,C,J,T⟩:=Mj h (g:=4) (m:=4) (t:=286) (ts:=vm4 4 285) (of_decide_eq_true Ab) Ab Ab Ab;exact⟨cs,⟨C,λi v q=>let⟨u,r,E⟩:=T i v q;Ahd ((aJ prog.underlying (dR r)).trans underlying285) E⟩,J⟩
def LW:Fz.toList.all Mh=km:=Ab
def Ahg:Fz.toList.all (λx=>Hm x != 1)=km:=Ab
def Adg:(List.range 49).all (λo=>match Fz[o]?,Fz[o+1]? with|some (gd _),lj (uu .i64 _)=>false|_,_=>km)=km:=Ab
def Hl{cs}(h:JW W g k cs t){b o x}(Z:W.cell? (iD b o)=lj x)(E:Hm x≠k):b≠g:=λe=>by
 subst e;have:=Hs h.row Z;exact E (h.kind o x this)
def Ajz(h:W.ShapedOpen prog)(V:Table W){off x}(Z:AkW W b off x):8<=b:=by
 have ⟨c0,I⟩:=Acy h;have ⟨Q,X⟩:=Acz h;have ⟨R,o⟩:=Ac0 h;have ⟨U,d⟩:=Ac1 h;have ⟨u,K,_⟩:=Ac2 h;have ⟨l,O⟩:=Ac3 h;have ⟨q,f⟩:=Ac4 h;have ⟨g,c,M⟩:=V;have F:=Hl I Z.c0 RV;have S:=Hl X Z.c3 RV;have L:=Hl o Z.c0 RV;have Y:=Hl d Z.c0 RV;have s:=Hl K Z.c0 RV;have t:=Hl O Z.c3 RV;have a:=Hl f Z.c3 RV;have E:b≠7:=λe=>by
  subst e;have C:=Hs M Z.c3;have J:=cZ.1 Ahg _ (bA Ab7);simp[Hm]at J
 omega
def JH(h:W.ShapedOpen prog)(V:Table W){x:Tl}(F:W.cell? (iD b o)=lj (iE x.1))(C:W.cell? ⟨b,o+1,jh⟩=lj (gd x.2.1))(J:W.cell? ⟨b,o+2,jh⟩=lj (iE x.2.2)):8<=b:=by
 obtain⟨c0,I⟩:=Acy h;obtain⟨Q,X⟩:=Acz h;obtain⟨R,a⟩:=Ac0 h;obtain⟨U,d⟩:=Ac1 h;obtain⟨u,K,_⟩:=Ac2 h;obtain⟨l,O⟩:=Ac3 h;obtain⟨q,f⟩:=Ac4 h;obtain⟨n,j,M⟩:=V;have g:=Hl I F RV;have S:=Hl X C RV;have L:=Hl a F RV;have Y:=Hl d F RV;have s:=Hl K F RV;have t:=Hl O C RV;have i:=Hl f C RV;have E:b≠7:=λe=>by
  subst e;have c:=Hs M C;have k:=Hs M J;have N:=(aG.1 c).1;have m:=cZ.1 Adg (o+1) (List.mem_range.2 N)
  grind
 omega
def DY(h:W.ShapedOpen prog)(V:Table W)(G:g<8):∃cs t b,W.1[g]?=lj (oh cs t b)/\(g≠4->∀(i:Nat) v,cs[i]?=lj v->Mh v=km)/\(g=4->cs.size=4/\∀(i:Nat) v,cs[i]?=lj v->Hm v=3):=by
 have E:∀{v} {k},Hm v=k->k<3->Mh v=km:=λ{v k} C J=>by cases v<;>simp[Hm,Mh]at C⊢<;>omega
 obtain⟨c0,I⟩:=Acy h;obtain⟨Q,X⟩:=Acz h;obtain⟨R,a⟩:=Ac0 h;obtain⟨U,d⟩:=Ac1 h;obtain⟨u,K,x⟩:=Ac2 h;obtain⟨l,O⟩:=Ac3 h;obtain⟨c,f⟩:=Ac4 h;obtain⟨m,j,M⟩:=V;have:g=0∨g=1∨g=2∨g=3∨g=4∨g=5∨g=6∨g=7:=Aa;rcases this with rfl|rfl|rfl|rfl|rfl|rfl|rfl|rfl
 ·exact⟨_,_,_,I.row,λ_ i v q=>E (I.kind i v q) Aa,λe=>Aa⟩
 ·exact⟨_,_,_,X.row,λ_ i v q=>E (X.kind i v q) Aa,λe=>Aa⟩
 ·exact⟨_,_,_,a.row,λ_ i v q=>E (a.kind i v q) Aa,λe=>Aa⟩
 ·exact⟨_,_,_,d.row,λ_ i v q=>E (d.kind i v q) Aa,λe=>Aa⟩
 ·exact⟨_,_,_,K.row,λe=>(e iI).elim,λ_=>⟨x,K.kind⟩⟩
 ·exact⟨_,_,_,O.row,λ_ i v q=>E (O.kind i v q) Aa,λe=>Aa⟩
 ·exact⟨_,_,_,f.row,λ_ i v q=>E (f.kind i v q) Aa,λe=>Aa⟩
 ·exact⟨_,_,_,M,λ_ i v q=>cZ.1 LW _ (bA Ab7),λe=>Aa⟩
end
open Go.Conc
def Rt(l:hZ)(r:Nat):List Nat:=if r∈l then l else l++[r]
section
variable {x y:Nat}
def Aa5:r∈Rt l r:=by unfold Rt;split<;>simp_all
def Aa6(h:x∈l):x∈Rt l r:=by unfold Rt;split<;>simp_all
theorem Agf(h:l.Nodup):(Rt l r).Nodup:=by
 unfold Rt
 grind
theorem Age(h:l[i]?=lj y):(Rt l r)[i]?=lj y:=by
 unfold Rt
 grind
theorem Aa4(h:x∈Rt l r):x∈l∨x=r:=by
 unfold Rt at h
 grind
def GY(h:r∈l):l[l.idxOf r]?=lj r:=by
 grind
end
def Pp(l:hZ)(a:Addr):Addr:={ a with block:=l.idxOf a.block }
def Rx(l:hZ):N->N
 |qh (lj a) n c=>qh (lj (Pp l a)) n c
 |x=>x
def Shown(l:hZ)(x:N):Prop:=Mh x=km∨∃a m k,x=qh a m k/\∀b,a=lj b->b.block∈l
def FV(l:hZ)(m:Ren):Prop:=∀i r,l[i]?=lj r->sh m i=r
section
variable {m:Ren}
def Qx(Z:Mh x=km):Rx l x=x:=by cases x<;>simp[Mh]at Z<;>rfl
def Y4(h:FV l m)(Z:Shown l x):Az m (Rx l x)=x:=by
 rcases Z with Z|⟨a,k,c,rfl,D⟩
 ·rw[Qx Z,Ud Z]
 ·cases a with
  |none=>simp[Rx]
  |some b=>
   have:=h _ _ (GY (D b iI));simp[Rx,Pp,Ei,this]
def GI(Z:Shown l x):Az (.up (T l)) (Rx l x)=Rx l x:=by
 rcases Z with Z|⟨a,k,c,rfl,D⟩
 ·rw[Qx Z,Ud Z]
 ·cases a with
  |none=>simp[Rx]
  |some b=>simp[Rx,Pp,Ei,Im (eO.2 (D b iI))]
end
def LI(x:N):N:=if Mh x=km then x else gd false
def QL(x):Mh (LI x)=km:=by
 unfold LI;split
 ·assumption
 ·rfl
def Pd(l:hZ)(i:Nat)(x:N):N:=if i<8 then Rx l x else LI x
def US(W:gk)(l:hZ)(i r:Nat):Obj:=match W.1[r]? with
 |some (oh c t fz)=>oh (c.map (Pd l i)) t fz
 |_=>oh #[] 0 (0,0)
def Hc(W:gk)(l:hZ):gk:={ W with heap:=(l.mapIdx (US W l)).toArray }
structure X3(W:gk)(l:hZ):Prop where
 nod:l.Nodup
 row:∀x∈l,∃c t fz,W.1[x]?=lj (oh c t fz)
 g8:∀i,i<8->l[i]?=lj i
 glob:∀i c t fz,i<8->W.1[i]?=lj (oh c t fz)->∀(j:Nat) x,c[j]?=lj x->Shown l x
def J0L(W:gk)(l:hZ)(q:Loc):Prop:=∃i j r x,q=.cell (iD i j)/\8<=i/\l[i]?=lj r/\W.cell? (iD r j)=lj x/\Mh x=false
def TAL(l:hZ)(i:Nat):Prop:=8<=i/\i<T l
section
variable {j:Nat} {o:Obj} {h:Goroutine}
def X3.lt(S:X3 W l):∀x∈l,x<iL W.1:=λx Z=>by
 have ⟨c,t,a,h⟩:=S.row x Z;exact ltOf h
def X3.n(S:X3 W l):Ren:=Ren.ofList l W.1.size S.1 S.lt
def X3.agr(S:X3 W l):FV l S.n:=λi r h=>Wa h
def X3.len(S:X3 W l):8<=T l:=(aF.1 (S.g8 7 Aa)).1
def I9:(Hc W l).1.size=T l:=by simp[Hc]
def LZ(h:l[i]?=lj r):(Hc W l).1[i]?=lj (US W l i r):=by simp[Hc,List.getElem?_mapIdx,h]
def Qc(h:l[i]?=lj r)(J:W.1[r]?=lj (oh c t a)):(Hc W l).1[i]?=lj (oh (c.map (Pd l i)) t a):=by
 rw[LZ h];unfold US;rw[J]
def Um(S:X3 W l)(h:(Hc W l).1[i]?=lj o):∃r c t a,l[i]?=lj r/\W.1[r]?=lj (oh c t a)/\o=oh (c.map (Pd l i)) t a:=by
 have V:i<T l:=by rw[←I9 ];exact ltOf h
 have ⟨c,t,a,C⟩:=S.row l[i] (eN V);refine⟨_,c,t,a,aH V,C,?_⟩;rw[Qc (aH V) C]at h
 grind
theorem V4(h:l[i]?=lj r):(Hc W l).cell? (iD i j)=(W.cell? (iD r j)).map (Pd l i):=by
 unfold World.cell?;rw[LZ h];unfold US
 grind
def X3.rows(S:X3 W l):Go.Pair.RowsIn (TAL l) (Hc W l):=λi V=>by
 have K:=V.2;have ⟨c,t,a,h⟩:=S.row l[i] (eN K);exact⟨_,_,_,Qc (aH K) h⟩
def Ahb:Pj (TAL l) (J0L W l):=λq f=>by
 obtain⟨i,j,r,x,rfl,C,J,_⟩:=f;exact⟨_,iI,C,(aF.1 J).1⟩
def MA(S:X3 W l){m}(L:FV l m)(h:l[i]?=lj r)(J:W.1[r]?=lj (oh c t a))(Z:c[j]?=lj x)(d:¬J0L W l (.cell (iD i j))):Az m (Pd l i x)=x:=by
 unfold Pd;split
 ·rename_i b;have:r=i:=by have:=S.g8 i b;grind
  subst this;exact Y4 L (S.glob r c t a b J j x Z)
 ·by_cases I:Mh x=km
  ·simp only[LI,I,bQ];exact Ud I m
  ·exact absurd ⟨i,j,r,x,iI,Aa,h,by rwa[Ci J],by simpa using I⟩ d
def X3.side(S:X3 W l){H:E2}(d:∀q,Iu (Hc W l) q->¬J0L W l q->¬H.In (Ge S.n q))(G:Bn (.up (T l)) h=h):Di prog S.n (JOr Ec (J0L W l)) (H.Own λ_=>False) h (Hc W l) W:=by
 refine Di.ofList S.1 S.lt I9 iI iI iI iI (λi r o V O=>?_) (λi V=>S.g8 i (by simp_all)) ⟨λi o O=>?_,by rwa[I9]⟩ λq f b=>⟨id,d q f λa=>b (.inr a)⟩
 ·obtain⟨D,c,t,e,C,J,rfl⟩:=Um S O;obtain rfl:=aB (V.symm.trans C);refine⟨_,J,.inr (.inl ⟨_,_,_,_,iI,iI,Ad,λj b=>?_⟩)⟩;cases M:c[j]? with
  |none=>simp[M]
  |some x=>
   simp only[aN,M,aI];exact aJ lj (MA S S.agr C J M λa=>b (.inr a)).symm
 ·obtain⟨r,c,t,e,C,J,rfl⟩:=Um S O;refine .inr (.inl ⟨_,_,_,_,iI,iI,iI,λj b=>?_⟩);cases M:c[j]? with
  |none=>simp[M]
  |some x=>
   simp only[aN,M,aI,aT];rw[I9];unfold Pd;split
   ·rename_i I;have:r=i:=by have:=S.g8 i I;rw[C]at this;exact aB this
    subst this;exact(GI (S.glob r c t e I J j x M)).symm
   ·exact(Ud (QL x) _).symm
def X3.stand(d:X3 W l){H:E2}(n:H.3=W)(L:∀f,Iu W f->(∀K,Iu (Hc W l) K->¬J0L W l K->f≠Ge d.n K)->H.In f){m a v w}(hs:Di prog m (JOr Ec (J0L W l)) a h v w)(a6:Ax (Hc W l) v (iK l<=·))(p:H.Kept w)(M:FV l m):∀i,i<iL W.1->w.1[i]?=W.1[i]?:=λi V=>by
 have P:∀k j(x:uo),W.cell? (iD k j)=lj x->(∀F,l[F]?=lj k->J0L W l (.cell (iD F j)))->H.In (.cell (iD k j)):=λk j x Z u=>L _ ⟨x,Z⟩ λK z e c=>by
  cases K with
  |cell y=>
   obtain⟨g,q,Q⟩:=y;simp only[Ge,Ei,Loc.cell.injEq,Addr.mk.injEq]at c;obtain⟨S,rfl,rfl⟩:=c;obtain⟨aj,a7⟩:=z;have a8:g<iK l:=by
    have:=Ki a7
    rwa[I9]at this
   have C:=d.agr g _ (aH a8)
   grind
  |_=>simp[Ge]at c
 have O:W.1[i]?=lj W.1[i]:=aO V;generalize W.1[i]=o at O;by_cases R:∃b t A,o=oh b t A
 ·obtain⟨b,t,A,rfl⟩:=R;have E:∀B,w.1[i]?=lj (oh B t A)->B.size=b.size->(∀j x,b[j]?=lj x->B[j]?=lj x)->w.1[i]?=W.1[i]?:=λB C J T=>by
   rw[C,O]
   congr 2
   refine bX λj=>?_;by_cases e:j<b.size
   ·rw[T j b[j] (aO e),aO e]
   ·rw[cR Aa,cR Aa]
  by_cases N:b=#[]
  ·obtain⟨B,C,J⟩:=p.row i b t A (by rwa[n]) (.inl N);exact E B C J λj x Z=>by rw[N]at Z;simp at Z
  by_cases G:i∈l
  ·have X:=GY G;have ak:l.idxOf i<iK l:=eO.2 G;have U:=Qc X O;rw[←a6.block _ (by rwa[I9]) Aa]at U;obtain⟨aa,C,J⟩:=(hs.sm 0).4 _ _ U;rw[M _ _ X]at C;have s:∀B,w.1[i]?=lj (oh B t A)->B.size=b.size->(∀j,¬(JOr Ec (J0L W l)) (.cell ⟨l.idxOf i,j,jh⟩)->B[j]?=((b.map (Pd l (l.idxOf i)))[j]?).map (Az m))->w.1[i]?=W.1[i]?:=λB Y g2 ab=>E B Y g2 λj x Z=>by
    by_cases u:J0L W l (.cell ⟨l.idxOf i,j,jh⟩)
    ·have T:=p.cell (iD i j) (P i j x (by rwa[Ci O]) λF I=>by
      have:F=l.idxOf i:=by
       exact(List.getElem_inj d.1).1 (((aF.1 I)).2.trans ((aF.1 X)).2.symm)
      rwa[this])
     rw[n,Ci Y,Ci O]at T
     rwa[T]
    ·rw[ab j λae=>ae.elim id u,aN,Z,aI,aI,MA d M X O Z u]
   rcases J with rfl|⟨al,B,af,ah,S,rfl,e2,e3⟩|⟨⟨T|T,_⟩,_⟩|⟨B,af,ah,S,rfl⟩
   ·exact s _ C Ad λj e=>Ad
   ·cases S;exact s _ C (by rw[e2];simp) e3
   ·exact T.elim
   ·obtain⟨_,_,_,_,c,_⟩:=T;cases c
   ·exfalso;have:b.map (Pd l (l.idxOf i))=#[]:=by
     simp only[Obj.cells.injEq]at S;exact S.1
    exact N (by simpa using this)
  ·have ad:∀j x,b[j]?=lj x->H.In (.cell (iD i j)):=λj x Z=>P i j x (by rwa[Ci O]) λF I=>absurd (bA I) G;have ai:0<b.size:=Nat.pos_of_ne_zero λc=>N (dS c);obtain⟨B,C,J⟩:=p.row i b t A (by rwa[n]) (.inr ⟨0,ad 0 b[0] (aO ai)⟩);refine E B C J λj x Z=>?_;have T:=p.cell (iD i j) (ad j x Z);rw[n,Ci C,Ci O]at T
   rwa[T]
 ·have a1:Cj o:=λb t A c=>R ⟨b,t,A,c⟩;rw[O];refine p.obj i o (L _ ⟨o,O,a1⟩ λK z e c=>?_) (by rwa[n]) a1;cases K with
  |obj r=>
   obtain⟨aa,C,J⟩:=z;obtain⟨D,b,t,A,_,_,rfl⟩:=Um d C;exact J _ _ _ iI
  |_=>simp[Ge]at c
end
def Ak7(h:w.ShapedOpen prog):∃m,w.cell? ⟨1,0,jh⟩=lj (iE m):=
 cell_of_shapedOpen_int (g:=1) (t:=3) (zero:=#[iE 0]) h (of_decide_eq_true Ab) Ab iI Ab Ab underlying3
section
variable {post:iA}
def Ajv(W:gk)(l:hZ)(L:gk):Prop:=TX L/\∀k,L.cell? ⟨4,k,jh⟩=(Hc W l).cell? ⟨4,k,jh⟩
def Aq3:It Fj (Ajv W l) where
 gives:=λs w V c=>utf.gives s w V.1 c
 kept:=λ{B w b} a D h=>have d:8<=B:=a
  ⟨utf.kept a D h.1,λk=>(D.cell Ah).trans (h.2 k)⟩
 size:=λ{w} h=>utf.size h.1
def HW(S:X3 W l)(post:iA):E2 where
 post:=post
 In:=λq=>Iu W q/\∀q',Iu (Hc W l) q'->¬J0L W l q'->q≠Ge S.n q'
 W0:=W
 ex:=λa h=>h.1
 exO:=λr h=>h.1
 exM:=λq h=>by
  cases q with
  |cell a=>exact .inl ⟨_,iI⟩
  |obj r=>exact .inr ⟨_,iI⟩
  |_=>exact h.1.elim
 num:=T l
 nf:=λi=>l.getD i 0
def KC(W:gk)(l:hZ):Prop:=∀kind,kind=1∨kind=2∨kind=3->∃g,g∈l/\8<=g/\Pm W kind g (TT kind)
def Ae8(S:X3 W l){r}(h:r∈l)(I:8<=r):8<=l.idxOf r:=Nat.le_of_not_lt λY=>by
 have C:=S.g8 _ Y
 grind
def D5(Y:l[i]?=lj r)(I:8<=i)(M:W.cell? (iD r k)=lj v)(b:Mh v=km):(Hc W l).cell? (iD i k)=lj v/\¬J0L W l (.cell (iD i k)):=by
 refine⟨?_,?_⟩
 ·rw[V4 Y,M,aI];simp[Pd,Nat.not_lt.2 I,LI,b]
 ·rintro⟨F,c,D,x,e,_,C,J,T⟩
  grind
def PAL(S:X3 W l)(ht:KC W l)(post:iA):PA (T l) (Ajv W l) where
 H:=HW S post
 TA:=TAL l
 base:=Hc W l
 J0:=J0L W l
 rows:=S.rows
 jin:=Ahb
 lt:=λi h=>h.2
 ge:=λi h=>h.1
 tl:=λL hL kind hk=>by
  obtain⟨g,hg,h8,⟨o,h4,hc⟩⟩:=ht kind hk;have hi:=GY hg;have hi8:=Ae8 S hg h8;refine⟨l.idxOf g,o,⟨hi8,eO.2 hg⟩,?_,λj x hx=>?_⟩
  ·rw[hL.2 kind,V4 (S.g8 4 Aa),h4]
   rfl
  ·obtain⟨a1,a2,a3⟩:=hc j x hx;exact⟨⟨(D5 hi hi8 a1 iI).1,(D5 hi hi8 a2 iI).1,(D5 hi hi8 a3 iI).1⟩,(D5 hi hi8 a1 iI).2,(D5 hi hi8 a2 iI).2,(D5 hi hi8 a3 iI).2⟩
def UA(S)(R:KC W l){X}(y:TM W e X)(p:∀b,e=lj b->b.block∈l)(I:∀b off x,AkW W b off x->8<=b):Yu (PAL S R post) (e.map (Pp l)) X:=λi x Z=>by
 obtain⟨b,off,rfl,h,a⟩:=y i x Z;have D:=p _ iI;have V:=GY D;have H:=Ae8 S D (I _ _ _ h);exact⟨l.idxOf b,off,iI,⟨⟨H,eO.2 D⟩,(D5 V H h.c0 iI).1,(D5 V H h.c1 iI).1,(D5 V H h.c2 iI).1,(D5 V H h.c3 iI).1,(D5 V H h.c4 iI).1,(D5 V H h.c5 iI).1,(D5 V H h.c0 iI).2,(D5 V H h.c1 iI).2,(D5 V H h.c2 iI).2,(D5 V H h.c3 iI).2,(D5 V H h.c4 iI).2,(D5 V H h.c5 iI).2⟩,a⟩
structure Laid(W):Prop where
 tabs:TX W
 table:Table W
 ml:∃m,W.cell? ⟨1,0,jh⟩=lj (iE m)
 rq1:W.cell? ⟨0,4,jh⟩=lj (pc ⟨#[40,52,52,116,98,41]⟩)
 rq2:W.cell? ⟨0,7,jh⟩=lj (pc ⟨#[40,52,52,116,52,41]⟩)
 rq3:W.cell? ⟨0,10,jh⟩=lj (pc ⟨#[40,52,52,116,98,52,41]⟩)
 rq5:W.cell? ⟨0,16,jh⟩=lj (pc ⟨#[40,52,52,116,63,41]⟩)
 rq4:W.cell? ⟨0,13,jh⟩=lj (pc ⟨#[40,52,52,116,63,41]⟩)
 rq6:W.cell? ⟨0,19,jh⟩=lj (pc ⟨#[40,52,52,116,63,41]⟩)
 rq7:W.cell? ⟨0,22,jh⟩=lj (pc ⟨#[40,52,52,41]⟩)
 an4:W.cell? ⟨3,4 * 3+1,jh⟩=lj (pc ⟨#[40,52,56,52,98,40,56,56,52,52,41,41]⟩)
 an6:W.cell? ⟨3,6 * 3+1,jh⟩=lj (pc ⟨#[40,52,56,52,91,116,93,41]⟩)
 an7:W.cell? ⟨3,7 * 3+1,jh⟩=lj (pc ⟨#[40,52,56,52,41]⟩)
 an1:W.cell? ⟨3,1 * 3+1,jh⟩=lj (pc ⟨#[40,52,56,52,116,41]⟩)
 an2:W.cell? ⟨3,2 * 3+1,jh⟩=lj (pc ⟨#[40,52,56,52,41]⟩)
 an3:W.cell? ⟨3,3 * 3+1,jh⟩=lj (pc ⟨#[40,52,56,52,40,56,56,52,52,41,41]⟩)
 an5:W.cell? ⟨3,5 * 3+1,jh⟩=lj (pc ⟨#[40,52,56,52,40,56,56,52,52,41,41]⟩)
def Ab1(S:X3 W l)(L:Laid W):Cx (Ajv W l) (T l) Ec iH (Bb (TAL l) (Hc W l)):=by
 refine⟨⟨λi h=>h.elim,λa h=>h.elim,λr h=>h.elim,λm h=>h⟩,λv q s=>?_,λi h=>h.elim,by rw[Dc,I9];exact aC _,S.len⟩;have D:∀i,i<8->v.1[i]?=(Hc W l).1[i]?:=λi V=>by
  rw[q i V,Bz];cases(Hc W l).1[i]? with
  |none=>rfl
  |some o=>simp[TAL,show ¬8<=i by omega]
 have B:∀{g k} {x},g<8->W.cell? (iD g k)=lj x->Mh x=km->v.cell? (iD g k)=lj x:=λ{g k x} G h e=>by
  rw[qpd (w:=Hc W l) (a:=(iD g k)) (D g G),V4 (S.g8 g G),h,aI];simp[Pd,G,Qx e]
 obtain⟨m,n⟩:=L.ml;have d:Table v:=by
  obtain⟨t,X,M⟩:=L.table;refine⟨t,X,?_⟩;rw[D 7 Aa,Qc (S.g8 7 Aa) M]
  congr 2
  refine bX λj=>?_;rw[aN];cases f:Fz[j]? with
  |none=>rfl
  |some x=>
   have:=cZ.1 LW _ (bA Ab7);simp[Pd,Qx this]
 exact { size:=s,tabs:=⟨⟨⟨λc h=>B Aa (L.tabs.1.1 c h) iI,λi h=>⟨B Aa (L.tabs.1.2 i h).1 iI,B Aa (L.tabs.1.2 i h).2 iI⟩⟩,(aE S.len s)⟩,λk=>qpd (w:=Hc W l) (a:=⟨4,k,jh⟩) (D 4 Aa)⟩,table:=d,rq1:=B Aa L.4 iI,rq2:=B Aa L.5 iI,rq3:=B Aa L.6 iI,rq5:=B Aa L.7 iI,rq4:=B Aa L.8 iI,rq6:=B Aa L.9 iI,rq7:=B Aa L.10 iI,an4:=B Aa L.11 iI,an6:=B Aa L.12 iI,an7:=B Aa L.13 iI,an1:=B Aa L.14 iI,an2:=B Aa L.15 iI,an3:=B Aa L.16 iI,an5:=B Aa L.17 iI,ml:=⟨m,B Aa n iI⟩ }
def ZZ{P}{b:Frame}{a c u}(z:b.kind=.normal)(y:a.defers = [])(I:P.funcs[b.fn]?=lj u)(Y:(results u a.tmps).run P w=.ok v w)(N:(results u a.tmps).events P w #[]=#[])(V:P.inits.idxOf? b.fn=jh):stepG P km (G { b.at a c with mode:=.returning } []) w=.ended (.done v) w #[]:=by
 simp[G,stepG,unwind,doReturn,Frame.at,z,y,I,Y,N,V,seen,GStep.after]
def Akx:prog.inits.idxOf? (base 4).fn=jh:=Ab
def NC(S:X3 W l):Plain (Hc W l):=λi o O=>by
 obtain⟨_,_,_,_,_,_,rfl⟩:=Um S O
 trivial
set_option maxRecDepth 100000 in
def Aqq(S)(R:KC W l)(m:∀B,iL W.1<=iL B.1->(∀i,i<iL W.1->B.1[i]?=W.1[i]?)->BV W B->post (gd km) B){a O}(o:a.defers = [])(Z:a.tmps.getD 6 undef=gd km)(E:Ax (Bb (TAL l) (Hc W l)) O (λj=>T l<=j))(c):EV prog km Ec (Mz (PAL S R post)) (G { (base 4).at a c with mode:=.returning } []) O:=by
 refine EV.stop λd p N D=>?_;refine EN.ret iI λn w g s H=>⟨gd km,λM=>?_,λM=>?_⟩
 ·have f:a.tmps[6]?=lj (gd km):=by
   rw[cE]at Z;cases h:a.tmps[6]? with
   |none=>rw[h]at Z;cases Z
   |some y=>grind
  have e:Bn n (G { (base 4).at a c with mode:=.returning } [])=G { (base 4).at (Bw n a) (c.map (Df n)) with mode:=.returning } []:=rfl;rw[e,ZZ iI (by simp[Bw,o]) func4 (results_tmp (t:=6) Ac _ _ _) (events_results_tmp (t:=6) Ac _ _) Akx];simp[Bw,cE,f]
 ·have b:=Zz (Fy S.rows) p (⟨E.os,E.tape,E.output,E.size,E.block⟩);rw[I3 S.rows]at b;have I:=S.stand (H:=HW S post) iI (λq C J=>⟨C,J⟩) s b H.kept λi r V=>by
   rw[(H.nn i ((aF.1 V).1)).1]
   show l.getD i 0=r;rw[cO,V];rfl
  refine m (w.at M) ?_ I ⟨(s.sm 0).os.trans b.os,(s.sm 0).output.trans b.output⟩
  show iL W.1<=iL w.1
  grind
def f3(x y z:N):Nat->N
 |0=>x
 |1=>y
 |2=>z
 |_=>undef
set_option maxRecDepth 100000 in
def Aqe(x y z):({ tmps:=#[x,y,z]++Array.replicate (f4.7 - (#[x,y,z]:gY).size) undef,defers:=[] }:Act)=AT (f3 x y z):=Ab
set_option maxRecDepth 100000 in
set_option maxHeartbeats 1000000 in
def PH(S:X3 W l)(R:KC W l)(L:Laid W){w Q H v n}{s:gU}{xs ys}(y:TM W w xs)(Y:iK xs=H)(K:H<=f)(e:TM W Q ys)(O:iK ys=v)(X:v<=n)(D:H+v<=1000000)(j:s.size<=1048576)(I:∀b off x,AkW W b off x->8<=b)(z:∀b,w=lj b->b.block∈l)(g:∀b,Q=lj b->b.block∈l)(o:∀d,iL W.1<=iL d.1->(∀i,i<iL W.1->d.1[i]?=W.1[i]?)->BV W d->post (gd km) d):Go.Pair.Ends prog post iH 0 (G (w8 prog 4 #[qh w H f,qh Q v n,pc s] .normal) []) W:=by
 have B:Shown l (qh w H f):=.inr ⟨_,_,_,iI,z⟩;have F:Shown l (qh Q v n):=.inr ⟨_,_,_,iI,g⟩;have q:∀a(m k:Nat),Rx l (qh a m k)=qh (a.map (Pp l)) m k:=λa m k=>by cases a<;>rfl
 have U:=Y4 S.agr B;have M:=Y4 S.agr F;have P:=GI B;have Z:=GI F;rw[q]at U M P Z;have t:=Aba (Post:=PAL S R post) (cA:=f) (cL:=n) (f:=f3 (qh (w.map (Pp l)) H f) (qh (Q.map (Pp l)) v n) (pc s)) Aq3 (Ab1 S L) (by rw[Dc,I9]) (λi V=>by
  obtain⟨c,aa,fz,C⟩:=S.row i (bA (S.g8 i V));exact⟨_,_,_,by rw[Bz,Qc (S.g8 i V) C];simp[TAL,show ¬8<=i by omega];exact⟨iI,iI,iI⟩⟩) (UA S R y z I) Y K (UA S R e g I) O X D j iI iI iI
 have A:EV prog km Ec (Mz (PAL S R post)) (G (w8 prog 4 #[qh (w.map (Pp l)) H f,qh (Q.map (Pp l)) v n,pc s] .normal) []) (Bb (TAL l) (Hc W l)):=by
  rw[enter_at (c:=rA 0) _ func4 iI,Aqe];exact t (base 4) [] [] iI iI λE N ab⟨T,hd,hx,a1⟩=>by
   subst T;exact Aqq S R o hd hx a1
 have a6:EN prog (HW S post) (PAL S R post).JX (G (w8 prog 4 #[qh (w.map (Pp l)) H f,qh (Q.map (Pp l)) v n,pc s] .normal) []) (Hc W l):=by
  apply EN.ofP (NC S);have:=EV.show (PAL S R post).6 (PAL S R post).rows (Fy S.rows) A
  rwa[I3 (PAL S R post).rows]at this
 have u:=a6 S.n W iH (S.side (λa7 C J a8=>a8.2 a7 C J iI) (by
  rw[Ep,←J9];simp only[cG,bC,cM,P,Z,Bc])) ⟨λl h=>h.elim,⟨λa N h=>h.elim,λr h=>h⟩,λl h=>h.elim,⟨λa _=>rfl,λr c E fz h _=>⟨c,h,iI⟩,λr ad _ h _=>h⟩,λi V=>⟨?_,?_⟩⟩
 ·rw[Ep,←J9]at u;simp only[cG,bC,cM,U,M,Bc]at u;exact u
 ·have p:i<iK l:=V;rw[S.agr i _ (aH p)]
  show _=l.getD i 0;rw[cO,aH p];rfl
 ·have p:i<iK l:=V
  show l.getD i 0<_;rw[cO,aH p];exact S.lt _ (eN p)
end
end Go.Proofs.YtcbilgmfdgpomaaGreatDoor
